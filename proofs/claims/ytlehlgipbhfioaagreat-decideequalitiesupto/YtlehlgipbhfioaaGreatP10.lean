/- Package sat: what the walks of visit and follow want of a search, plainly, and that the steps keep it. Package sat, plainly: following misses nothing. Package sat: a row of watches is filled in anew in place. Package sat, plainly: clauses that are taken in; what Solve answers of units, and of clauses by which two opposites are forced. -/
import Derived.Test.YtlehlgipbhfioaaGreatSaI
namespace Go.Proofs.YtlehlgipbhfioaaGreat
open Go.RowKit Go.Maps

/-- The watches of a literal are others. -/
def Sv.setW (s : Sv) (l : Nat) (X : List (Nat × Nat)) : Sv := { s with ws := s.ws.set l X }
theorem wat_setW {s : Sv} {l : Nat} (hl : l < s.ws.length) (X : List (Nat × Nat)) (l' : Nat) : (s.setW l X).wat l' = if l' = l then X else s.wat l' := by
  unfold Sv.setW Sv.wat
  by_cases e : l' = l
  · subst e; simp [hl]
  · rw [if_neg e, List.getElem?_set_ne (fun x => e x.symm)]
theorem setW_self {s : Sv} {l : Nat} (hl : l < s.ws.length) : s.setW l (s.wat l) = s := by
  unfold Sv.setW Sv.wat
  rw [List.getElem?_eq_getElem hl]
  simp
theorem setW_setW (s : Sv) (l : Nat) (X Y : List (Nat × Nat)) : (s.setW l X).setW l Y = s.setW l Y := by
  unfold Sv.setW; simp

theorem free_spec {s : Sv} : ∀ {ls : List Nat} {k i : Nat}, s.free ls k = some i → ∃ l, ls[i - k]? = some l ∧ k ≤ i ∧ s.val l ≠ -1
  | [], _, _, h => by simp [Sv.free] at h
  | l :: ls, k, i, h => by
    rw [Sv.free] at h
    split at h
    · cases h; exact ⟨l, by simp, Nat.le_refl _, by assumption⟩
    · obtain ⟨l', h1, h2, h3⟩ := free_spec h
      refine ⟨l', ?_, by omega, h3⟩
      have : i - k = (i - (k + 1)) + 1 := by omega
      rw [this, List.getElem?_cons_succ, h1]
theorem free_none {s : Sv} : ∀ {ls : List Nat} {k : Nat}, s.free ls k = none → ∀ l ∈ ls, s.val l = -1
  | [], _, _ => by simp
  | l :: ls, k, h => by
    rw [Sv.free] at h
    split at h
    · cases h
    · next hv =>
      intro l' hl'
      rcases List.mem_cons.1 hl' with rfl | hl'
      · exact Classical.not_not.1 hv
      · exact free_none h l' hl'

/-- What moves comes to. -/
theorem moves_cases {s : Sv} {c gone a b : Nat} {rest : List Nat} (hl : s.lits c = a :: b :: rest) (hg : gone = a ∨ gone = b) :
    ∃ m0, (m0 = a ∧ gone = b ∨ m0 = b ∧ gone = a) ∧
      (s.moves c gone = (false, { s with cl := s.cl.set c (m0 :: gone :: rest) }) ∧ (s.val m0 = 1 ∨ ∀ l ∈ rest, s.val l = -1) ∨
       ∃ j li, rest[j]? = some li ∧ s.val li ≠ -1 ∧ s.val m0 ≠ 1 ∧ s.moves c gone = (true, Sv.addW { s with cl := s.cl.set c (m0 :: li :: rest.set j gone) } li c m0)) := by
  have key : ∀ m0, Sv.front (s.lits c) gone = m0 :: gone :: rest → (s.moves c gone = (false, { s with cl := s.cl.set c (m0 :: gone :: rest) }) ∧ (s.val m0 = 1 ∨ ∀ l ∈ rest, s.val l = -1) ∨
       ∃ j li, rest[j]? = some li ∧ s.val li ≠ -1 ∧ s.val m0 ≠ 1 ∧ s.moves c gone = (true, Sv.addW { s with cl := s.cl.set c (m0 :: li :: rest.set j gone) } li c m0)) := by
    intro m0 hF
    unfold Sv.moves
    rw [hF]
    simp only [List.getElem?_cons_zero, Option.getD_some, List.drop_succ_cons, List.drop_zero]
    split
    · next h1 => exact Or.inl ⟨rfl, Or.inl h1⟩
    · next h1 =>
      cases hf : s.free rest 2 with
      | none => exact Or.inl ⟨rfl, Or.inr (free_none hf)⟩
      | some i =>
        obtain ⟨l, h2, h3, h4⟩ := free_spec hf
        refine Or.inr ⟨i - 2, l, h2, h4, h1, ?_⟩
        obtain ⟨j, rfl⟩ : ∃ j, i = j + 2 := ⟨i - 2, by omega⟩
        have h5 : rest[j]? = some l := by simpa using h2
        simp [h5]
  by_cases e : a = gone
  · refine ⟨b, Or.inr ⟨rfl, e.symm⟩, key b ?_⟩
    unfold Sv.front
    rw [hl, if_pos (by simpa using e)]
    simp
  · have e2 : gone = b := hg.resolve_left (fun x => e x.symm)
    refine ⟨a, Or.inl ⟨rfl, e2⟩, key a ?_⟩
    unfold Sv.front
    rw [hl, if_neg (by simpa using e), e2]

theorem val_setW (s : Sv) (l : Nat) (X : List (Nat × Nat)) (l' : Nat) : (s.setW l X).val l' = s.val l' := rfl
theorem addW_setW {s : Sv} {l g : Nat} (hne : l ≠ g) (c o : Nat) (X : List (Nat × Nat)) : (s.setW g X).addW l c o = (s.addW l c o).setW g X := by
  unfold Sv.addW Sv.setW Sv.wat
  simp only
  rw [List.getElem?_set_ne (fun e => hne e.symm), List.set_comm _ _ (fun e => hne e.symm)]
theorem moves_setW {s : Sv} {c gone : Nat} (hg : s.val gone = -1) (X : List (Nat × Nat)) :
    (s.setW gone X).moves c gone = ((s.moves c gone).1, (s.moves c gone).2.setW gone X) := by
  have hfr : ∀ ls k, (s.setW gone X).free ls k = s.free ls k := fun ls k => free_congr (s := s) (s1 := s.setW gone X) rfl ls k
  unfold Sv.moves
  simp only [show (s.setW gone X).lits c = s.lits c from rfl, hfr, val_setW]
  split
  · rfl
  · cases hf : s.free ((Sv.front (s.lits c) gone).drop 2) 2 with
    | none => rfl
    | some i =>
      obtain ⟨l, h2, h3, h4⟩ := free_spec hf
      obtain ⟨j, rfl⟩ : ∃ j, i = j + 2 := ⟨i - 2, by omega⟩
      have h5 : (Sv.front (s.lits c) gone)[j + 2]? = some l := by
        rw [List.getElem?_drop] at h2
        rw [Nat.add_comm]; simpa using h2
      simp only [h5, Option.getD_some]
      have hne : l ≠ gone := fun e => h4 (e ▸ hg)
      exact congrArg _ (addW_setW (s := { s with cl := s.cl.set c (((Sv.front (s.lits c) gone).set 1 l).set (j + 2) gone) }) hne c ((Sv.front (s.lits c) gone)[0]?.getD 0) X)

/-- What the walks want. -/
structure Fit (s : Sv) : Prop where
  lv : s.vals.length = 2 * s.n + 2
  lw : s.ws.length = 2 * s.n + 2
  sgn : ∀ l, l < 2 * s.n + 2 → s.val (opp l) = - s.val l
  tri : ∀ l, s.val l = -1 ∨ s.val l = 0 ∨ s.val l = 1
  on : ∀ l, l ∈ s.trail ↔ (l < 2 * s.n + 2 ∧ s.val l = 1)
  nd : s.trail.Nodup
  cls : ∀ c, (s.lits c).Nodup ∧ ∀ l ∈ s.lits c, l < 2 * s.n + 2
  wnd : ∀ l, ((s.wat l).map Prod.fst).Nodup
  wat : ∀ l p, p ∈ s.wat l → p.1 < s.cl.length ∧ p.2 ∈ s.lits p.1 ∧ ∃ a b rest, s.lits p.1 = a :: b :: rest ∧ (l = a ∨ l = b)

theorem opp_opp (l : Nat) : opp (opp l) = l := by unfold opp; split <;> split <;> omega
theorem opp_ne (l : Nat) : opp l ≠ l := by unfold opp; split <;> omega
theorem len_le_of_nodup {l : List Nat} {n : Nat} (hn : l.Nodup) (hl : ∀ x ∈ l, x < n) : l.length ≤ n := by
  have h := List.Nodup.length_le_of_subset hn (l₂ := List.range n) (fun x hx => List.mem_range.2 (hl x hx))
  simpa using h
theorem Fit.trail_le {s : Sv} (h : Fit s) : s.trail.length ≤ 2 * s.n + 2 := len_le_of_nodup h.nd (fun x hx => ((h.on x).1 hx).1)
theorem Fit.lits_le {s : Sv} (h : Fit s) (c : Nat) : (s.lits c).length ≤ 2 * s.n + 2 := len_le_of_nodup (h.cls c).1 (h.cls c).2
theorem Fit.wat_le {s : Sv} (h : Fit s) (l : Nat) : (s.wat l).length ≤ s.cl.length := by
  have := len_le_of_nodup (h.wnd l) (n := s.cl.length) (fun x hx => by
    obtain ⟨p, hp, rfl⟩ := List.mem_map.1 hx
    exact (h.wat l p hp).1)
  simpa using this

/-- A value is given. -/
theorem val_assign {s : Sv} {l : Nat} (h : Fit s) (hl : l < 2 * s.n + 2) (l' : Nat) : (s.assign l).val l' = if l' = l then 1 else if l' = opp l then -1 else s.val l' := by
  have hol := opp_lt hl
  have hne := opp_ne l
  unfold Sv.assign Sv.val
  simp only
  by_cases e : l' = opp l
  · subst e
    rw [List.getElem?_set_self (by simp [h.lv]; exact hol), if_neg hne, if_pos rfl]; rfl
  · rw [List.getElem?_set_ne (fun x => e x.symm), if_neg e]
    by_cases e2 : l' = l
    · subst e2
      rw [List.getElem?_set_self (by rw [h.lv]; exact hl), if_pos rfl]; rfl
    · rw [List.getElem?_set_ne (fun x => e2 x.symm), if_neg e2]
theorem Fit.assign {s : Sv} (h : Fit s) {l : Nat} (hl : l < 2 * s.n + 2) (h0 : s.val l = 0) : Fit (s.assign l) := by
  have V := val_assign h hl
  have hne := opp_ne l
  have hoo := opp_opp l
  refine ⟨by simp [Sv.assign, h.lv], h.lw, fun l' hl' => ?_, fun l' => ?_, fun l' => ?_, ?_, h.cls, h.wnd, h.wat⟩
  · rw [V, V]
    by_cases e1 : l' = l
    · subst e1
      rw [if_neg hne, if_pos rfl, if_pos rfl]
    · by_cases e2 : l' = opp l
      · subst e2
        rw [hoo, if_pos rfl, if_neg hne, if_pos rfl]; rfl
      · rw [if_neg (fun e => e2 (by rw [← e, opp_opp])), if_neg (fun e => e1 (by rw [← opp_opp l', e, hoo])), if_neg e1, if_neg e2]
        exact h.sgn l' hl'
  · rw [V]
    split
    · exact Or.inr (Or.inr rfl)
    · split
      · exact Or.inl rfl
      · exact h.tri l'
  · show l' ∈ s.trail ++ [l] ↔ l' < 2 * s.n + 2 ∧ _
    rw [V, List.mem_append, List.mem_singleton, h.on]
    by_cases e1 : l' = l
    · subst e1; simp [hl]
    · by_cases e2 : l' = opp l
      · subst e2
        have := h.sgn l hl
        rw [h0] at this
        simp [this, hne]
      · simp [e1, e2]
  · show (s.trail ++ [l]).Nodup
    rw [List.nodup_append]
    refine ⟨h.nd, by simp, fun a ha b hb => ?_⟩
    simp at hb
    subst hb
    rintro rfl
    have := ((h.on _).1 ha).2
    omega

theorem lits_setc {s : Sv} {c : Nat} (hc : c < s.cl.length) (ls : List Nat) (w : List (List (Nat × Nat))) (c' : Nat) : ({ s with cl := s.cl.set c ls, ws := w } : Sv).lits c' = if c' = c then ls else s.lits c' := lits_set hc ls c'

/-- A step of visit: what moves leaves. -/
theorem Fit.moves {s : Sv} {gone c o : Nat} {stay rest : List (Nat × Nat)} (hgw : gone < s.ws.length) (h : Fit (s.setW gone (stay ++ (c, o) :: rest))) (hg : s.val gone = -1) :
    (s.moves c gone).2.n = s.n ∧ (s.moves c gone).2.vals = s.vals ∧ (s.moves c gone).2.trail = s.trail ∧ (s.moves c gone).2.cl.length = s.cl.length ∧ (s.moves c gone).2.ws.length = s.ws.length ∧
    ((s.moves c gone).1 = true → Fit ((s.moves c gone).2.setW gone (stay ++ rest))) ∧
    ((s.moves c gone).1 = false → ∃ m0 r, (s.moves c gone).2.lits c = m0 :: r ∧ m0 < 2 * s.n + 2 ∧ Fit ((s.moves c gone).2.setW gone (stay ++ (c, m0) :: rest))) := by
  have W := wat_setW hgw (stay ++ (c, o) :: rest)
  obtain ⟨hc, ho, a, b, r, hl, hgab⟩ := h.wat gone (c, o) (by rw [W, if_pos rfl]; simp)
  have hcn := h.cls c
  have hc : c < s.cl.length := hc
  have hl : s.lits c = a :: b :: r := hl
  have hcn : (s.lits c).Nodup ∧ ∀ l ∈ s.lits c, l < 2 * s.n + 2 := hcn
  rw [hl] at hcn
  have hab : a ≠ b := fun e => by have := hcn.1; simp [e] at this
  obtain ⟨m0, hm0, hcase⟩ := moves_cases hl hgab
  have hrn : ∀ x ∈ r, x ≠ a ∧ x ≠ b := fun x hx => by
    have := hcn.1
    simp only [List.nodup_cons, List.mem_cons, not_or] at this
    exact ⟨fun e => this.1.2 (e ▸ hx), fun e => this.2.1 (e ▸ hx)⟩
  have hperm : ∀ x, x ∈ a :: b :: r ↔ x ∈ m0 :: gone :: r := fun x => by
    rcases hm0 with ⟨rfl, rfl⟩ | ⟨rfl, rfl⟩
    · exact Iff.rfl
    · simp only [List.mem_cons]; exact ⟨fun h => by rcases h with h | h | h <;> simp [h], fun h => by rcases h with h | h | h <;> simp [h]⟩
  have hnd2 : (m0 :: gone :: r).Nodup := by
    rcases hm0 with ⟨rfl, rfl⟩ | ⟨rfl, rfl⟩
    · exact hcn.1
    · exact (List.Perm.swap _ _ _).nodup_iff.1 hcn.1
  have hmlt : m0 < 2 * s.n + 2 := by
    rcases hm0 with ⟨rfl, _⟩ | ⟨rfl, _⟩
    · exact hcn.2 _ (by simp)
    · exact hcn.2 _ (by simp)
  have hglt : gone < 2 * s.n + 2 := by
    rcases hgab with rfl | rfl
    · exact hcn.2 _ (by simp)
    · exact hcn.2 _ (by simp)
  have hmg : m0 ≠ gone := fun e => by simp [e] at hnd2
  have hwn := h.wnd gone
  rw [W, if_pos rfl] at hwn
  simp only [List.map_append, List.map_cons] at hwn
  have hcs : ∀ p ∈ stay ++ rest, p.1 ≠ c := fun p hp e => by
    rw [List.nodup_append] at hwn
    rcases List.mem_append.1 hp with hp | hp
    · exact hwn.2.2 p.1 (List.mem_map.2 ⟨p, hp, rfl⟩) c (by simp) e
    · have := hwn.2.1
      simp only [List.nodup_cons] at this
      exact this.1 (e ▸ List.mem_map.2 ⟨p, hp, rfl⟩)
  have hwn2 : ((stay ++ rest).map Prod.fst).Nodup := by
    rw [List.map_append]
    exact hwn.sublist (List.Sublist.append_left (List.sublist_cons_self _ _) _)
  have hoth : ∀ l p, l ≠ gone → p ∈ s.wat l → p.1 < s.cl.length ∧ p.2 ∈ s.lits p.1 ∧ ∃ a b rest, s.lits p.1 = a :: b :: rest ∧ (l = a ∨ l = b) := fun l p hlg hp => h.wat l p (by rw [W, if_neg hlg]; exact hp)
  have hwl : ∀ l, l ≠ gone → ((s.wat l).map Prod.fst).Nodup := fun l hlg => by have := h.wnd l; rwa [W, if_neg hlg] at this
  have hin : ∀ p ∈ stay ++ rest, p.1 < s.cl.length ∧ p.2 ∈ s.lits p.1 ∧ ∃ a b rest, s.lits p.1 = a :: b :: rest ∧ (gone = a ∨ gone = b) := fun p hp => h.wat gone p (by
    rw [W, if_pos rfl]
    rcases List.mem_append.1 hp with hp | hp
    · simp [hp]
    · simp [hp])
  rcases hcase with ⟨hm, hv⟩ | ⟨j, li, hj, hli, hv, hm⟩
  · rw [hm]
    have L := lits_set hc (m0 :: gone :: r)
    refine ⟨rfl, rfl, rfl, by simp, rfl, fun e => (by cases e), fun _ => ⟨m0, gone :: r, by rw [L, if_pos rfl], hmlt, ?_⟩⟩
    have W2 := wat_setW (s := { s with cl := s.cl.set c (m0 :: gone :: r) }) hgw (stay ++ (c, m0) :: rest)
    refine ⟨h.lv, by simpa [Sv.setW] using h.lw, h.sgn, h.tri, h.on, h.nd, fun c' => ?_, fun l => ?_, fun l p hp => ?_⟩
    · show (({ s with cl := s.cl.set c (m0 :: gone :: r) } : Sv).lits c').Nodup ∧ ∀ l ∈ ({ s with cl := s.cl.set c (m0 :: gone :: r) } : Sv).lits c', _
      rw [L]
      split
      · exact ⟨hnd2, fun x hx => hcn.2 x ((hperm x).2 hx)⟩
      · exact h.cls c'
    · rw [W2]
      split
      · simpa using hwn
      · next e => exact hwl l e
    · show p.1 < (s.cl.set c (m0 :: gone :: r)).length ∧ p.2 ∈ ({ s with cl := s.cl.set c (m0 :: gone :: r) } : Sv).lits p.1 ∧ ∃ a b rest, ({ s with cl := s.cl.set c (m0 :: gone :: r) } : Sv).lits p.1 = a :: b :: rest ∧ (l = a ∨ l = b)
      rw [W2] at hp
      rw [L, List.length_set]
      by_cases ep : p.1 = c
      · rw [if_pos ep]
        split at hp
        · next e =>
          have : p = (c, m0) := by
            rcases List.mem_append.1 hp with hp | hp
            · exact absurd ep (hcs p (by simp [hp]))
            · rcases List.mem_cons.1 hp with hp | hp
              · exact hp
              · exact absurd ep (hcs p (by simp [hp]))
          subst this
          exact ⟨hc, by simp, m0, gone, r, rfl, Or.inr e⟩
        · next e =>
          obtain ⟨h1, h2, a', b', r', h3, h4⟩ := hoth l p e hp
          refine ⟨h1, ?_, m0, gone, r, rfl, ?_⟩
          · rw [ep, hl] at h2
            exact (hperm _).1 h2
          · rw [ep, hl] at h3
            cases h3
            rcases hm0 with ⟨rfl, rfl⟩ | ⟨rfl, rfl⟩
            · exact h4
            · exact h4.symm
      · rw [if_neg ep]
        split at hp
        · next e =>
          subst e
          refine hin p ?_
          rcases List.mem_append.1 hp with hp | hp
          · simp [hp]
          · rcases List.mem_cons.1 hp with hp | hp
            · exact absurd (by rw [hp]) ep
            · simp [hp]
        · next e => exact hoth l p e hp
  · rw [hm]
    have hjr : li ∈ r := List.mem_of_getElem? hj
    obtain ⟨hjl, hje⟩ := List.getElem?_eq_some_iff.1 hj
    have hlia : li ≠ a ∧ li ≠ b := hrn li hjr
    have hlm : li ≠ m0 := by rcases hm0 with ⟨rfl, _⟩ | ⟨rfl, _⟩ <;> simp [hlia]
    have hlg : li ≠ gone := fun e => hli (e ▸ hg)
    have hlilt : li < 2 * s.n + 2 := hcn.2 li (by simp [hjr])
    have L := lits_set hc (m0 :: li :: r.set j gone)
    have hlw : li < s.ws.length := by have := h.lw; simp [Sv.setW] at this; omega
    have WA := wat_addW (s := { s with cl := s.cl.set c (m0 :: li :: r.set j gone) }) (c := c) (o := m0) hlw
    have W2 := wat_setW (s := Sv.addW { s with cl := s.cl.set c (m0 :: li :: r.set j gone) } li c m0) (l := gone) (by simpa [Sv.addW] using hgw) (stay ++ rest)
    have hperm2 : (m0 :: li :: r.set j gone).Perm (m0 :: gone :: r) := by
      refine List.Perm.cons _ ?_
      have h1 : r = r.take j ++ li :: r.drop (j + 1) := by
        conv => lhs; rw [← List.take_append_drop j r, List.drop_eq_getElem_cons hjl, hje]
      have h2 : r.set j gone = r.take j ++ gone :: r.drop (j + 1) := by
        rw [List.set_eq_take_append_cons_drop, if_pos hjl]
      rw [h2]
      conv => rhs; rw [h1]
      have p1 : (li :: (r.take j ++ gone :: r.drop (j + 1))).Perm (li :: gone :: (r.take j ++ r.drop (j + 1))) := List.Perm.cons _ List.perm_middle
      have p2 : (gone :: (r.take j ++ li :: r.drop (j + 1))).Perm (gone :: li :: (r.take j ++ r.drop (j + 1))) := List.Perm.cons _ List.perm_middle
      exact p1.trans ((List.Perm.swap _ _ _).trans p2.symm)
    refine ⟨rfl, rfl, rfl, by simp [Sv.addW], by simp [Sv.addW], fun _ => ?_, fun e => by cases e⟩
    have hLL : ∀ c', ((Sv.addW { s with cl := s.cl.set c (m0 :: li :: r.set j gone) } li c m0).setW gone (stay ++ rest)).lits c' = if c' = c then m0 :: li :: r.set j gone else s.lits c' := L
    have hWW : ∀ l, ((Sv.addW { s with cl := s.cl.set c (m0 :: li :: r.set j gone) } li c m0).setW gone (stay ++ rest)).wat l = if l = gone then stay ++ rest else if l = li then s.wat li ++ [(c, m0)] else s.wat l := fun l => by rw [W2, WA]; rfl
    have hnc : ∀ p ∈ s.wat li, p.1 ≠ c := fun p hp e => by
      obtain ⟨_, _, a', b', r', h3, h4⟩ := hoth li p hlg hp
      rw [e, hl] at h3
      cases h3
      rcases h4 with h4 | h4
      · exact hlia.1 h4
      · exact hlia.2 h4
    refine ⟨h.lv, by simp [Sv.setW, Sv.addW]; simpa [Sv.setW] using h.lw, h.sgn, h.tri, h.on, h.nd, fun c' => ?_, fun l => ?_, fun l p hp => ?_⟩
    · rw [hLL]
      split
      · exact ⟨hperm2.nodup_iff.2 hnd2, fun x hx => hcn.2 x ((hperm x).2 (hperm2.mem_iff.1 hx))⟩
      · exact h.cls c'
    · rw [hWW]
      split
      · exact hwn2
      · next e =>
        split
        · next e2 =>
          subst e2
          rw [List.map_append, List.nodup_append]
          refine ⟨hwl _ e, by simp, fun x hx y hy => ?_⟩
          simp at hy
          subst hy
          obtain ⟨p, hp, rfl⟩ := List.mem_map.1 hx
          exact hnc p hp
        · exact hwl l e
    · show p.1 < _ ∧ _
      rw [hWW] at hp
      rw [hLL]
      have hlen : ((Sv.addW { s with cl := s.cl.set c (m0 :: li :: r.set j gone) } li c m0).setW gone (stay ++ rest)).cl.length = s.cl.length := by simp [Sv.setW, Sv.addW]
      rw [hlen]
      by_cases eg : l = gone
      · rw [if_pos eg] at hp
        rw [if_neg (hcs p hp)]
        subst eg
        exact hin p hp
      · rw [if_neg eg] at hp
        by_cases el : l = li
        · rw [if_pos el] at hp
          rcases List.mem_append.1 hp with hp | hp
          · rw [if_neg (hnc p hp)]
            subst el
            exact hoth _ p eg hp
          · simp at hp
            subst hp
            rw [if_pos rfl]
            exact ⟨hc, by simp, m0, li, _, rfl, Or.inr el⟩
        · rw [if_neg el] at hp
          obtain ⟨h1, h2, a', b', r', h3, h4⟩ := hoth l p eg hp
          by_cases ep : p.1 = c
          · rw [if_pos ep]
            rw [ep, hl] at h3 h2
            cases h3
            refine ⟨h1, hperm2.mem_iff.2 ((hperm _).1 h2), m0, li, _, rfl, Or.inl ?_⟩
            rcases hm0 with ⟨rfl, rfl⟩ | ⟨rfl, rfl⟩
            · exact h4.resolve_right eg
            · exact h4.resolve_left eg
          · rw [if_neg ep]
            exact ⟨h1, h2, a', b', r', h3, h4⟩

end Go.Proofs.YtlehlgipbhfioaaGreat

namespace Go.Proofs.YtlehlgipbhfioaaGreat
open Go.RowKit Go.Maps

/-- What stays as it is, or grows, as values come. -/
structure Grow (s s' : Sv) : Prop where
  n : s'.n = s.n
  seen : s'.seen = s.seen
  starts : s'.starts = s.starts
  hp : s'.hp = s.hp
  fin : s'.fin = s.fin
  cl : s'.cl.length = s.cl.length
  lits : ∀ c x, x ∈ s'.lits c ↔ x ∈ s.lits c
  size : ∀ c, (s'.lits c).length = (s.lits c).length
  trail : ∃ t, s'.trail = s.trail ++ t
  yes : ∀ l, s.val l = 1 → s'.val l = 1
  no : ∀ l, s.val l = -1 → s'.val l = -1
theorem Grow.refl (s : Sv) : Grow s s := ⟨rfl, rfl, rfl, rfl, rfl, rfl, fun _ _ => Iff.rfl, fun _ => rfl, ⟨[], by simp⟩, fun _ h => h, fun _ h => h⟩
theorem Grow.trans {s s1 s2 : Sv} (h : Grow s s1) (k : Grow s1 s2) : Grow s s2 := by
  obtain ⟨t, ht⟩ := h.trail
  obtain ⟨u, hu⟩ := k.trail
  exact ⟨k.n.trans h.n, k.seen.trans h.seen, k.starts.trans h.starts, k.hp.trans h.hp, k.fin.trans h.fin, k.cl.trans h.cl, fun c x => (k.lits c x).trans (h.lits c x), fun c => (k.size c).trans (h.size c), ⟨t ++ u, by rw [hu, ht, List.append_assoc]⟩, fun l e => k.yes l (h.yes l e), fun l e => k.no l (h.no l e)⟩
theorem Grow.setW (s : Sv) (l : Nat) (X : List (Nat × Nat)) : Grow s (s.setW l X) := ⟨rfl, rfl, rfl, rfl, rfl, rfl, fun _ _ => Iff.rfl, fun _ => rfl, ⟨[], by simp [Sv.setW]⟩, fun _ h => h, fun _ h => h⟩
theorem Grow.ofSetW {s s' : Sv} {l : Nat} {X : List (Nat × Nat)} (h : Grow s (s'.setW l X)) : Grow s s' := ⟨h.n, h.seen, h.starts, h.hp, h.fin, h.cl, h.lits, h.size, h.trail, h.yes, h.no⟩
theorem Grow.assign {s : Sv} (h : Fit s) {l : Nat} (hl : l < 2 * s.n + 2) (h0 : s.val l = 0) : Grow s (s.assign l) := by
  have V := val_assign h hl
  have ho : s.val (opp l) = 0 := by rw [h.sgn l hl, h0]; rfl
  refine ⟨rfl, rfl, rfl, rfl, rfl, rfl, fun _ _ => Iff.rfl, fun _ => rfl, ⟨[l], rfl⟩, fun l' e => ?_, fun l' e => ?_⟩
  · rw [V]
    split
    · rfl
    · split
      · next e2 => rw [e2, ho] at e; cases e
      · exact e
  · rw [V]
    split
    · next e2 => rw [e2, h0] at e; cases e
    · split
      · rfl
      · exact e

/-- Each clause is watched by its first two literals; where one of these is false and was looked at (H), a literal is true. -/
structure Wi (s : Sv) (H : Nat → Nat → Prop) : Prop where
  wat : ∀ c a b rest, s.lits c = a :: b :: rest → (∃ o, (c, o) ∈ s.wat a) ∧ ∃ o, (c, o) ∈ s.wat b
  yes : ∀ c a b rest, s.lits c = a :: b :: rest → H c a ∨ H c b → ∃ l ∈ s.lits c, s.val l = 1

theorem Wi.mono {s : Sv} {H H' : Nat → Nat → Prop} (h : Wi s H) (hh : ∀ c l, H' c l → H c l) : Wi s H' :=
  ⟨h.wat, fun c a b rest e k => h.yes c a b rest e (k.imp (hh c a) (hh c b))⟩
theorem Wi.assign {s : Sv} {H : Nat → Nat → Prop} (h : Wi s H) (hF : Fit s) {l : Nat} (hl : l < 2 * s.n + 2) (h0 : s.val l = 0) : Wi (s.assign l) H :=
  ⟨h.wat, fun c a b rest e k => by
    obtain ⟨x, h1, h2⟩ := h.yes c a b rest e k
    exact ⟨x, h1, (Grow.assign hF hl h0).yes x h2⟩⟩

/-- One watch of a literal that is false is looked at. -/
theorem Wi.step {s : Sv} {gone c o : Nat} {stay rest : List (Nat × Nat)} {S : Nat → Prop} (hgw : gone < s.ws.length) (h : Fit (s.setW gone (stay ++ (c, o) :: rest))) (hg : s.val gone = -1)
    (hS : ∀ l, S l → s.val l = -1) (k : Wi (s.setW gone (stay ++ (c, o) :: rest)) (fun c' l => S l ∨ l = gone ∧ ∀ p ∈ (c, o) :: rest, p.1 ≠ c')) :
    Grow s (s.moves c gone).2 ∧ (∀ l, (s.moves c gone).2.val l = s.val l) ∧
    ((s.moves c gone).1 = true → Wi ((s.moves c gone).2.setW gone (stay ++ rest)) (fun c' l => S l ∨ l = gone ∧ ∀ p ∈ rest, p.1 ≠ c')) ∧
    ((s.moves c gone).1 = false → ∀ m0 r, (s.moves c gone).2.lits c = m0 :: r → Wi ((s.moves c gone).2.setW gone (stay ++ (c, m0) :: rest)) (fun c' l => c' ≠ c ∧ (S l ∨ l = gone ∧ ∀ p ∈ rest, p.1 ≠ c'))) := by
  have W := wat_setW hgw (stay ++ (c, o) :: rest)
  obtain ⟨hc, ho, a, b, r, hl, hgab⟩ := h.wat gone (c, o) (by rw [W, if_pos rfl]; simp)
  have hcn := h.cls c
  have hc : c < s.cl.length := hc
  have hl : s.lits c = a :: b :: r := hl
  have hcn : (s.lits c).Nodup ∧ ∀ l ∈ s.lits c, l < 2 * s.n + 2 := hcn
  rw [hl] at hcn
  have hkw := k.wat c a b r hl
  have hky := k.yes c a b r hl
  obtain ⟨m0, hm0, hcase⟩ := moves_cases hl hgab
  have hnd2 : (m0 :: gone :: r).Nodup := by
    rcases hm0 with ⟨rfl, rfl⟩ | ⟨rfl, rfl⟩
    · exact hcn.1
    · exact (List.Perm.swap _ _ _).nodup_iff.1 hcn.1
  have hmg : m0 ≠ gone := fun e => by simp [e] at hnd2
  have hperm : ∀ x, x ∈ m0 :: gone :: r ↔ x ∈ s.lits c := fun x => by
    rw [hl]
    rcases hm0 with ⟨rfl, rfl⟩ | ⟨rfl, rfl⟩
    · exact Iff.rfl
    · simp only [List.mem_cons]; exact ⟨fun h => by rcases h with h | h | h <;> simp [h], fun h => by rcases h with h | h | h <;> simp [h]⟩
  have hwm : ∃ o', (c, o') ∈ s.wat m0 := by
    have : ∃ o', (c, o') ∈ (s.setW gone (stay ++ (c, o) :: rest)).wat m0 := by
      rcases hm0 with ⟨rfl, _⟩ | ⟨rfl, _⟩
      · exact hkw.1
      · exact hkw.2
    rwa [W, if_neg hmg] at this
  have hym : S m0 → ∃ l ∈ s.lits c, s.val l = 1 := fun e => by
    rcases hm0 with ⟨rfl, _⟩ | ⟨rfl, _⟩
    · exact hky (Or.inl (Or.inl e))
    · exact hky (Or.inr (Or.inl e))
  have hoth : ∀ c' a', c' ≠ c → (∃ o', (c', o') ∈ (s.setW gone (stay ++ (c, o) :: rest)).wat a') → (a' = gone → ∃ o', (c', o') ∈ stay ++ rest) ∧ (a' ≠ gone → ∃ o', (c', o') ∈ s.wat a') := fun c' a' hne ⟨o', e⟩ => by
    rw [W] at e
    refine ⟨fun e2 => ⟨o', ?_⟩, fun e2 => ⟨o', by rwa [if_neg e2] at e⟩⟩
    rw [if_pos e2] at e
    rcases List.mem_append.1 e with e | e
    · simp [e]
    · rcases List.mem_cons.1 e with e | e
      · cases e; exact absurd rfl hne
      · simp [e]
  rcases hcase with ⟨hm, hv⟩ | ⟨j, li, hj, hli, hv, hm⟩
  · rw [hm]
    have L := lits_set hc (m0 :: gone :: r)
    have W2 := fun x => wat_setW (s := { s with cl := s.cl.set c (m0 :: gone :: r) }) hgw (stay ++ (c, x) :: rest)
    refine ⟨⟨rfl, rfl, rfl, rfl, rfl, by simp, fun c' x => ?_, fun c' => ?_, ⟨[], by simp⟩, fun _ h => h, fun _ h => h⟩, fun _ => rfl, fun e => (by cases e), fun _ m r' hmr => ?_⟩
    · show x ∈ ({ s with cl := s.cl.set c (m0 :: gone :: r) } : Sv).lits c' ↔ _
      rw [L]
      split
      · next e => rw [e]; exact hperm x
      · exact Iff.rfl
    · show (({ s with cl := s.cl.set c (m0 :: gone :: r) } : Sv).lits c').length = _
      rw [L]
      split
      · next e => rw [e, hl]; rfl
      · rfl
    · have hmr : ({ s with cl := s.cl.set c (m0 :: gone :: r) } : Sv).lits c = m :: r' := hmr
      rw [L, if_pos rfl] at hmr
      cases hmr
      refine ⟨fun c' a' b' r2 e => ?_, fun c' a' b' r2 e kk => ?_⟩
      · have e : ({ s with cl := s.cl.set c (m0 :: gone :: r) } : Sv).lits c' = a' :: b' :: r2 := e
        rw [L] at e
        rw [W2, W2]
        by_cases ec : c' = c
        · rw [if_pos ec] at e
          cases e
          subst ec
          rw [if_neg hmg, if_pos rfl]
          exact ⟨hwm, m0, by simp⟩
        · rw [if_neg ec] at e
          obtain ⟨h1, h2⟩ := k.wat c' a' b' r2 e
          constructor
          · obtain ⟨g1, g2⟩ := hoth c' a' ec h1
            split
            · next e2 => obtain ⟨o', x⟩ := g1 e2; exact ⟨o', by rcases List.mem_append.1 x with x | x <;> simp [x]⟩
            · next e2 => exact g2 e2
          · obtain ⟨g1, g2⟩ := hoth c' b' ec h2
            split
            · next e2 => obtain ⟨o', x⟩ := g1 e2; exact ⟨o', by rcases List.mem_append.1 x with x | x <;> simp [x]⟩
            · next e2 => exact g2 e2
      · have e : ({ s with cl := s.cl.set c (m0 :: gone :: r) } : Sv).lits c' = a' :: b' :: r2 := e
        have hne : c' ≠ c := by rcases kk with kk | kk <;> exact kk.1
        rw [L, if_neg hne] at e
        show ∃ l ∈ ({ s with cl := s.cl.set c (m0 :: gone :: r) } : Sv).lits c', _
        rw [L, if_neg hne]
        refine k.yes c' a' b' r2 e (kk.imp (fun kk => kk.2.imp (fun x => x) (fun x => ⟨x.1, fun p hp => ?_⟩)) (fun kk => kk.2.imp (fun x => x) (fun x => ⟨x.1, fun p hp => ?_⟩)))
        all_goals
          rcases List.mem_cons.1 hp with hp | hp
          · rw [hp]; exact fun e => hne e.symm
          · exact x.2 p hp
  · rw [hm]
    have hjr : li ∈ r := List.mem_of_getElem? hj
    obtain ⟨hjl, hje⟩ := List.getElem?_eq_some_iff.1 hj
    have hlg : li ≠ gone := fun e => hli (e ▸ hg)
    have hlm : li ≠ m0 := fun e => by subst e; simp [hjr] at hnd2
    have hlilt : li < 2 * s.n + 2 := hcn.2 li (by simp [hjr])
    have L := lits_set hc (m0 :: li :: r.set j gone)
    have hlw : li < s.ws.length := by have := h.lw; simp [Sv.setW] at this; omega
    have WA := wat_addW (s := { s with cl := s.cl.set c (m0 :: li :: r.set j gone) }) (c := c) (o := m0) hlw
    have W2 := wat_setW (s := Sv.addW { s with cl := s.cl.set c (m0 :: li :: r.set j gone) } li c m0) (l := gone) (by simpa [Sv.addW] using hgw) (stay ++ rest)
    have hperm2 : ∀ x, x ∈ m0 :: li :: r.set j gone ↔ x ∈ m0 :: gone :: r := fun x => by
      have h1 : r = r.take j ++ li :: r.drop (j + 1) := by
        conv => lhs; rw [← List.take_append_drop j r, List.drop_eq_getElem_cons hjl, hje]
      have h2 : r.set j gone = r.take j ++ gone :: r.drop (j + 1) := List.set_eq_take_append_cons_drop .. |>.trans (if_pos hjl)
      rw [h2]
      conv => rhs; rw [h1]
      simp only [List.mem_cons, List.mem_append]
      constructor
      · rintro (h | h | h | h | h) <;> simp [h]
      · rintro (h | h | h | h | h) <;> simp [h]
    refine ⟨⟨rfl, rfl, rfl, rfl, rfl, by simp [Sv.addW], fun c' x => ?_, fun c' => ?_, ⟨[], by simp [Sv.addW]⟩, fun _ h => h, fun _ h => h⟩, fun _ => rfl, fun _ => ⟨fun c' a' b' r2 e => ?_, fun c' a' b' r2 e kk => ?_⟩, fun e => (by cases e)⟩
    · show x ∈ ({ s with cl := s.cl.set c (m0 :: li :: r.set j gone) } : Sv).lits c' ↔ _
      rw [L]
      split
      · next e => rw [e]; exact (hperm2 x).trans (hperm x)
      · exact Iff.rfl
    · show (({ s with cl := s.cl.set c (m0 :: li :: r.set j gone) } : Sv).lits c').length = _
      rw [L]
      split
      · next e => rw [e, hl]; simp
      · rfl
    · have e : ({ s with cl := s.cl.set c (m0 :: li :: r.set j gone) } : Sv).lits c' = a' :: b' :: r2 := e
      rw [L] at e
      have key : ∀ x, (x = gone → ∃ o', (c', o') ∈ stay ++ rest) → (x ≠ gone → ∃ o', (c', o') ∈ s.wat x) → ∃ o', (c', o') ∈ ((Sv.addW { s with cl := s.cl.set c (m0 :: li :: r.set j gone) } li c m0).setW gone (stay ++ rest)).wat x := fun x h1 h2 => by
        rw [W2]
        split
        · next e2 => exact h1 e2
        · next e2 =>
          obtain ⟨o', h3⟩ := h2 e2
          refine ⟨o', ?_⟩
          rw [WA]
          split
          · next e3 => rw [e3] at h3; exact List.mem_append_left _ h3
          · exact h3
      by_cases ec : c' = c
      · rw [if_pos ec] at e
        cases e
        subst ec
        refine ⟨key m0 (fun x => absurd x hmg) (fun _ => hwm), m0, ?_⟩
        rw [W2, if_neg hlg, WA, if_pos rfl]
        simp
      · rw [if_neg ec] at e
        obtain ⟨h1, h2⟩ := k.wat c' a' b' r2 e
        exact ⟨key a' (hoth c' a' ec h1).1 (hoth c' a' ec h1).2, key b' (hoth c' b' ec h2).1 (hoth c' b' ec h2).2⟩
    · have e : ({ s with cl := s.cl.set c (m0 :: li :: r.set j gone) } : Sv).lits c' = a' :: b' :: r2 := e
      show ∃ l ∈ ({ s with cl := s.cl.set c (m0 :: li :: r.set j gone) } : Sv).lits c', s.val l = 1
      rw [L] at e ⊢
      by_cases ec : c' = c
      · rw [if_pos ec] at e ⊢
        cases e
        have hSm : S m0 := by
          rcases kk with (kk | kk) | (kk | kk)
          · exact kk
          · exact absurd kk.1 hmg
          · exact absurd (hS _ kk) hli
          · exact absurd kk.1 hlg
        obtain ⟨x, h1, h2⟩ := hym hSm
        exact ⟨x, (hperm2 x).2 ((hperm x).2 h1), h2⟩
      · rw [if_neg ec] at e ⊢
        refine k.yes c' a' b' r2 e (kk.imp (fun kk => kk.imp (fun x => x) (fun x => ⟨x.1, fun p hp => ?_⟩)) (fun kk => kk.imp (fun x => x) (fun x => ⟨x.1, fun p hp => ?_⟩)))
        all_goals
          rcases List.mem_cons.1 hp with hp | hp
          · rw [hp]; exact fun e => ec e.symm
          · exact x.2 p hp

/-- Going through the watches of a literal that is false. -/
theorem visitL_ok {gone : Nat} {S : Nat → Prop} : ∀ (rest stay : List (Nat × Nat)) (s : Sv), gone < s.ws.length → Fit (s.setW gone (stay ++ rest)) → s.val gone = -1 → (∀ l, S l → s.val l = -1) →
    Wi (s.setW gone (stay ++ rest)) (fun c' l => S l ∨ l = gone ∧ ∀ p ∈ rest, p.1 ≠ c') →
    Grow s (Sv.visitL gone rest stay s).2 ∧ Fit (Sv.visitL gone rest stay s).2 ∧ ((Sv.visitL gone rest stay s).1 = none → Wi (Sv.visitL gone rest stay s).2 (fun _ l => S l ∨ l = gone))
  | [], stay, s, _, hF, _, _, k => by
    simp only [List.append_nil] at hF k
    exact ⟨Grow.setW _ _ _, hF, fun _ => k.mono (fun c l h => h.imp (fun x => x) (fun x => ⟨x, by simp⟩))⟩
  | (c, o) :: rest, stay, s, hgw, hF, hg, hS, k => by
    have W := wat_setW hgw (stay ++ (c, o) :: rest)
    rw [Sv.visitL]
    by_cases ho : s.val o = 1
    · simp only [if_pos ho]
      have e : stay ++ (c, o) :: rest = stay ++ [(c, o)] ++ rest := by simp
      refine visitL_ok rest (stay ++ [(c, o)]) s hgw (e ▸ hF) hg hS ⟨e ▸ k.wat, fun c' a b r hl hh => ?_⟩
      by_cases ec : c' = c
      · obtain ⟨_, h2, _⟩ := hF.wat gone (c, o) (by rw [W, if_pos rfl]; simp)
        exact ⟨o, by rw [ec]; exact h2, ho⟩
      · refine k.yes c' a b r hl (hh.imp (fun kk => kk.imp (fun x => x) (fun x => ⟨x.1, fun p hp => ?_⟩)) (fun kk => kk.imp (fun x => x) (fun x => ⟨x.1, fun p hp => ?_⟩)))
        all_goals
          rcases List.mem_cons.1 hp with hp | hp
          · rw [hp]; exact fun e => ec e.symm
          · exact x.2 p hp
    · simp only [if_neg ho]
      obtain ⟨g1, g2, g3, g4⟩ := Wi.step hgw hF hg hS k
      obtain ⟨f1, f2, f3, f4, f5, f6, f7⟩ := Fit.moves hgw hF hg
      have hgw1 : gone < (s.moves c gone).2.ws.length := by rw [f5]; exact hgw
      have hS1 : ∀ l, S l → (s.moves c gone).2.val l = -1 := fun l hl => by rw [g2]; exact hS l hl
      have hg1 : (s.moves c gone).2.val gone = -1 := by rw [g2]; exact hg
      cases hm : (s.moves c gone).1 with
      | true =>
        simp only [if_true]
        obtain ⟨r1, r2, r3⟩ := visitL_ok rest stay _ hgw1 (f6 hm) hg1 hS1 (g3 hm)
        exact ⟨g1.trans r1, r2, r3⟩
      | false =>
        simp only [Bool.false_eq_true, if_false]
        obtain ⟨m0, r, hl, hmlt, hF1⟩ := f7 hm
        have k1 := g4 hm m0 r hl
        have hgd : ((s.moves c gone).2.lits c)[0]?.getD 0 = m0 := by rw [hl]; rfl
        rw [hgd]
        have e : ∀ x : Nat × Nat, stay ++ x :: rest = stay ++ [x] ++ rest := fun x => by simp
        have hmin : m0 ∈ (s.moves c gone).2.lits c := by rw [hl]; simp
        generalize (s.moves c gone).2 = s1 at *
        by_cases h0 : s1.val m0 = 0
        · simp only [if_pos h0]
          have hml1 : m0 < 2 * s1.n + 2 := by rw [f1]; exact hmlt
          have hFA : Fit ((s1.setW gone (stay ++ (c, m0) :: rest)).assign m0) := hF1.assign hml1 h0
          have kA := k1.assign hF1 hml1 h0
          have GA : Grow s1 (s1.assign m0) := (Grow.assign hF1 hml1 h0 : Grow (s1.setW gone (stay ++ (c, m0) :: rest)) ((s1.setW gone (stay ++ (c, m0) :: rest)).assign m0)) |> fun G => ⟨G.n, G.seen, G.starts, G.hp, G.fin, G.cl, G.lits, G.size, G.trail, G.yes, G.no⟩
          have V1 : (s1.assign m0).val m0 = 1 := (val_assign hF1 hml1 m0).trans (if_pos rfl)
          obtain ⟨r1, r2, r3⟩ := visitL_ok rest (stay ++ [(c, m0)]) (s1.assign m0) hgw1 (e (c, m0) ▸ hFA) (GA.no _ hg1) (fun l hl => GA.no _ (hS1 l hl)) ⟨e (c, m0) ▸ kA.wat, fun c' a b r' hl' hh => by
            by_cases ec : c' = c
            · rw [ec]; exact ⟨m0, hmin, V1⟩
            · exact kA.yes c' a b r' hl' (hh.imp (fun x => ⟨ec, x⟩) (fun x => ⟨ec, x⟩))⟩
          exact ⟨(g1.trans GA).trans r1, r2, r3⟩
        · simp only [if_neg h0]
          by_cases h1 : s1.val m0 = -1
          · simp only [if_pos h1]
            refine ⟨g1.trans (Grow.setW _ _ _), ?_, fun e => (by cases e)⟩
            have := hF1
            rw [e] at this
            exact this
          · simp only [if_neg h1]
            have V1 : s1.val m0 = 1 := by
              have t : s1.val m0 = -1 ∨ s1.val m0 = 0 ∨ s1.val m0 = 1 := hF1.tri m0
              rcases t with t | t | t
              · exact absurd t h1
              · exact absurd t h0
              · exact t
            obtain ⟨r1, r2, r3⟩ := visitL_ok rest (stay ++ [(c, m0)]) s1 hgw1 (e (c, m0) ▸ hF1) hg1 hS1 ⟨e (c, m0) ▸ k1.wat, fun c' a b r' hl' hh => by
              by_cases ec : c' = c
              · rw [ec]; exact ⟨m0, hmin, V1⟩
              · exact k1.yes c' a b r' hl' (hh.imp (fun x => ⟨ec, x⟩) (fun x => ⟨ec, x⟩))⟩
            exact ⟨g1.trans r1, r2, r3⟩

/-- Between two visits. -/
structure Fw (s : Sv) : Prop where
  fit : Fit s
  le : s.seen ≤ s.trail.length
  wi : Wi s (fun _ l => opp l ∈ s.trail.take s.seen)

theorem Fw.visit {s : Sv} (h : Fw s) {l : Nat} (hl : s.trail[s.seen]? = some l) :
    Grow { s with seen := s.seen + 1 } (Sv.visit { s with seen := s.seen + 1 } (opp l)).2 ∧ Fit (Sv.visit { s with seen := s.seen + 1 } (opp l)).2 ∧ ((Sv.visit { s with seen := s.seen + 1 } (opp l)).1 = none → Fw (Sv.visit { s with seen := s.seen + 1 } (opp l)).2) := by
  obtain ⟨hlt, he⟩ := List.getElem?_eq_some_iff.1 hl
  have hmem : l ∈ s.trail := List.mem_of_getElem? hl
  obtain ⟨hln, hlv⟩ := (h.fit.on l).1 hmem
  have hg : s.val (opp l) = -1 := by rw [h.fit.sgn l hln, hlv]
  have hgw : opp l < s.ws.length := by rw [h.fit.lw]; exact opp_lt hln
  have hF1 : Fit { s with seen := s.seen + 1 } := ⟨h.fit.lv, h.fit.lw, h.fit.sgn, h.fit.tri, h.fit.on, h.fit.nd, h.fit.cls, h.fit.wnd, h.fit.wat⟩
  have hself : ({ s with seen := s.seen + 1 } : Sv).setW (opp l) ([] ++ ({ s with seen := s.seen + 1 } : Sv).wat (opp l)) = { s with seen := s.seen + 1 } := setW_self hgw
  have hfalse : ∀ l', opp l' ∈ s.trail.take s.seen → s.val l' = -1 := fun l' h' => by
    obtain ⟨h1, h2⟩ := (h.fit.on _).1 (List.mem_of_mem_take h')
    have := h.fit.sgn _ h1
    rw [opp_opp] at this
    rw [this, h2]
  have k0 : Wi { s with seen := s.seen + 1 } (fun c' l' => opp l' ∈ s.trail.take s.seen ∨ l' = opp l ∧ ∀ p ∈ ({ s with seen := s.seen + 1 } : Sv).wat (opp l), p.1 ≠ c') := by
    refine ⟨h.wi.wat, fun c a b r e hh => ?_⟩
    obtain ⟨⟨o1, w1⟩, o2, w2⟩ := h.wi.wat c a b r e
    refine h.wi.yes c a b r e (hh.imp (fun x => x.resolve_right (fun x => ?_)) (fun x => x.resolve_right (fun x => ?_)))
    · exact x.2 _ (by rw [← x.1]; exact w1) rfl
    · exact x.2 _ (by rw [← x.1]; exact w2) rfl
  obtain ⟨r1, r2, r3⟩ := visitL_ok (S := fun l' => opp l' ∈ s.trail.take s.seen) (({ s with seen := s.seen + 1 } : Sv).wat (opp l)) [] { s with seen := s.seen + 1 } hgw (by rw [hself]; exact hF1) hg hfalse (by rw [hself]; exact k0)
  refine ⟨r1, r2, fun e => ⟨r2, ?_, (r3 e).mono (fun _ l' hh => ?_)⟩⟩
  · obtain ⟨t, ht⟩ := r1.trail
    show (Sv.visitL _ _ _ _).2.seen ≤ (Sv.visitL _ _ _ _).2.trail.length
    rw [r1.seen, ht]
    simp; omega
  · obtain ⟨t, ht⟩ := r1.trail
    have hh : opp l' ∈ (Sv.visitL (opp l) (({ s with seen := s.seen + 1 } : Sv).wat (opp l)) [] { s with seen := s.seen + 1 }).2.trail.take (Sv.visitL (opp l) (({ s with seen := s.seen + 1 } : Sv).wat (opp l)) [] { s with seen := s.seen + 1 }).2.seen := hh
    rw [r1.seen, ht] at hh
    have hh : opp l' ∈ (s.trail ++ t).take (s.seen + 1) := hh
    rw [List.take_append_of_le_length (by omega), List.take_add_one, hl] at hh
    simp only [Option.toList_some, List.mem_append, List.mem_singleton] at hh
    rcases hh with hh | hh
    · exact Or.inl hh
    · exact Or.inr (by rw [← hh, opp_opp])

theorem Grow.seen1 {s s' : Sv} (h : Grow { s with seen := s.seen + 1 } s') : s'.n = s.n ∧ s'.seen = s.seen + 1 ∧ s'.starts = s.starts ∧ s'.hp = s.hp ∧ s'.fin = s.fin ∧ s'.cl.length = s.cl.length ∧ (∀ c x, x ∈ s'.lits c ↔ x ∈ s.lits c) ∧ (∀ c, (s'.lits c).length = (s.lits c).length) ∧ (∃ t, s'.trail = s.trail ++ t) ∧ (∀ l, s.val l = 1 → s'.val l = 1) ∧ ∀ l, s.val l = -1 → s'.val l = -1 :=
  ⟨h.n, h.seen, h.starts, h.hp, h.fin, h.cl, h.lits, h.size, h.trail, h.yes, h.no⟩

/-- What follow leaves: as Grow, but for seen. -/
structure Went1 (s s' : Sv) : Prop where
  n : s'.n = s.n
  starts : s'.starts = s.starts
  hp : s'.hp = s.hp
  fin : s'.fin = s.fin
  cl : s'.cl.length = s.cl.length
  lits : ∀ c x, x ∈ s'.lits c ↔ x ∈ s.lits c
  size : ∀ c, (s'.lits c).length = (s.lits c).length
  yes : ∀ l, s.val l = 1 → s'.val l = 1
  no : ∀ l, s.val l = -1 → s'.val l = -1

/-- follow ends within the fuel; without a conflict, all that is false was looked at. -/
theorem follow_ok : ∀ (f : Nat) (s : Sv), Fw s → 2 * s.n + 3 ≤ f + s.seen → ∃ o s', Sv.follow f s = some (o, s') ∧ Went1 s s' ∧ Fit s' ∧ (o = none → Fw s' ∧ s'.seen = s'.trail.length)
  | 0, s, h, hf => by have := h.fit.trail_le; have := h.le; omega
  | f + 1, s, h, hf => by
    rw [Sv.follow]
    cases hl : s.trail[s.seen]? with
    | none =>
      have hge : s.trail.length ≤ s.seen := List.getElem?_eq_none_iff.1 hl
      have hle := h.le
      exact ⟨none, s, rfl, ⟨rfl, rfl, rfl, rfl, rfl, fun _ _ => Iff.rfl, fun _ => rfl, fun _ h => h, fun _ h => h⟩, h.fit, fun _ => ⟨h, by omega⟩⟩
    | some l =>
      obtain ⟨r1, r2, r3⟩ := h.visit hl
      obtain ⟨g1, g2, g3, g4, g5, g6, g7, g8, g9, g10, g11⟩ := r1.seen1
      simp only
      cases hv : Sv.visit { s with seen := s.seen + 1 } (opp l) with
      | mk o s1 =>
        rw [hv] at r1 r2 r3 g1 g2 g3 g4 g5 g6 g7 g8 g9 g10 g11
        simp only at r1 r2 r3 g1 g2 g3 g4 g5 g6 g7 g8 g9 g10 g11
        cases o with
        | some c => exact ⟨some c, s1, rfl, ⟨g1, g3, g4, g5, g6, g7, g8, g10, g11⟩, r2, fun e => (by cases e)⟩
        | none =>
          obtain ⟨o, s', h1, h2, h3, h4⟩ := follow_ok f s1 (r3 rfl) (by rw [g1, g2]; omega)
          exact ⟨o, s', h1, ⟨h2.n.trans g1, h2.starts.trans g3, h2.hp.trans g4, h2.fin.trans g5, h2.cl.trans g6, fun c x => (h2.lits c x).trans (g7 c x), fun c => (h2.size c).trans (g8 c), fun l e => h2.yes l (g10 l e), fun l e => h2.no l (g11 l e)⟩, h3, h4⟩

/-- So no clause is left with all but one literal false and none true. -/
theorem Fw.done {s : Sv} (h : Fw s) (hs : s.seen = s.trail.length) (c : Nat) (h2 : 2 ≤ (s.lits c).length) : (∃ l ∈ s.lits c, s.val l = 1) ∨ ∃ a b, a ≠ b ∧ a ∈ s.lits c ∧ b ∈ s.lits c ∧ s.val a ≠ -1 ∧ s.val b ≠ -1 := by
  obtain ⟨hn, hlt⟩ := h.fit.cls c
  match hl : s.lits c with
  | [] => rw [hl] at h2; simp at h2
  | [_] => rw [hl] at h2; simp at h2
  | a :: b :: r =>
    rw [hl] at hn hlt
    have hno : ∀ x, x ∈ a :: b :: r → s.val x = -1 → opp x ∈ s.trail.take s.seen := fun x hx hv => by
      rw [hs, List.take_length]
      have h1 := h.fit.sgn x (hlt x hx)
      exact (h.fit.on _).2 ⟨opp_lt (hlt x hx), by rw [h1, hv]; rfl⟩
    by_cases ha : s.val a = -1
    · have := h.wi.yes c a b r hl (Or.inl (hno a (by simp) ha))
      rw [hl] at this
      exact Or.inl this
    · by_cases hb : s.val b = -1
      · have := h.wi.yes c a b r hl (Or.inr (hno b (by simp) hb))
        rw [hl] at this
        exact Or.inl this
      · refine Or.inr ⟨a, b, fun e => ?_, by simp, by simp, ha, hb⟩
        simp [e] at hn

end Go.Proofs.YtlehlgipbhfioaaGreat

namespace Go.Proofs.YtlehlgipbhfioaaGreat
open Go.RowKit Go.Maps

theorem setCells_other (b : Nat) : ∀ (vs : List Value) (o : Nat) (W : World) (k : Nat), k ≠ b → (W.setCells b o vs).heap[k]? = W.heap[k]?
  | [], _, _, _, _ => rfl
  | v :: r, o, W, k, hk => by
    rw [World.setCells, setCells_other b r (o + 1) _ k hk]
    exact Below.heap_setCell _ _ _ _ hk
theorem setCells_heap (b : Nat) : ∀ (vs : List Value) (o : Nat) (W : World) (cs : List Value) (ty : TypeId) (z : Nat × Nat), W.heap[b]? = some (Obj.cells cs.toArray ty z) → o + vs.length ≤ cs.length →
    (W.setCells b o vs).heap[b]? = some (Obj.cells (cs.take o ++ vs ++ cs.drop (o + vs.length)).toArray ty z)
  | [], o, W, cs, ty, z, h, _ => by simp [World.setCells, h]
  | v :: r, o, W, cs, ty, z, h, hl => by
    simp only [List.length_cons] at hl
    have h1 : (W.setCell ⟨b, o, none⟩ v).heap[b]? = some (Obj.cells (cs.set o v).toArray ty z) := by
      unfold World.setCell
      simp [Array.getElem?_modify, h]
    rw [World.setCells, setCells_heap b r (o + 1) _ (cs.set o v) ty z h1 (by simp; omega)]
    congr 3
    have ho : o < cs.length := by omega
    have e1 : (cs.set o v).take (o + 1) = cs.take o ++ [v] := by
      rw [List.set_eq_take_append_cons_drop, if_pos ho, List.take_append, List.length_take]
      simp [Nat.min_eq_left (Nat.le_of_lt ho), List.take_take]
    have e2 : (cs.set o v).drop (o + 1 + r.length) = cs.drop (o + (r.length + 1)) := by
      rw [List.drop_set_of_lt (by omega)]
      congr 1; omega
    rw [e1, e2]
    simp
theorem setCells_kept (S : Nat → Prop) {b : Nat} (hb : S b) : ∀ (vs : List Value) (o : Nat) (w W : World), Kept S w W → Kept S w (W.setCells b o vs)
  | [], _, _, _, h => h
  | v :: r, o, w, _, h => setCells_kept S hb r (o + 1) w _ (h.setCell (p := ⟨b, o, none⟩) hb v)

theorem watC_append (A : Ad) (X Y : List (Nat × Nat)) : watC A (X ++ Y) = watC A X ++ watC A Y := by simp [watC]
theorem watC_take (A : Ad) : ∀ (L : List (Nat × Nat)) (k : Nat), (watC A L).take (k * 2) = watC A (L.take k)
  | _, 0 => by simp [watC]
  | [], k + 1 => by simp [watC]
  | x :: L, k + 1 => by
    have : (k + 1) * 2 = k * 2 + 1 + 1 := by omega
    rw [this]
    simp only [watC, List.flatMap_cons, List.cons_append, List.nil_append, List.take_succ_cons]
    have e := watC_take A L k
    unfold watC at e
    rw [e]
theorem watC_drop (A : Ad) : ∀ (L : List (Nat × Nat)) (k : Nat), (watC A L).drop (k * 2) = watC A (L.drop k)
  | _, 0 => by simp
  | [], k + 1 => by simp [watC]
  | x :: L, k + 1 => by
    have : (k + 1) * 2 = k * 2 + 1 + 1 := by omega
    rw [this]
    simp only [watC, List.flatMap_cons, List.cons_append, List.nil_append, List.drop_succ_cons]
    have e := watC_drop A L k
    unfold watC at e
    rw [e]
theorem watC_get (A : Ad) {L : List (Nat × Nat)} {k c o : Nat} (h : L[k]? = some (c, o)) : (watC A L)[k * 2]? = some (A.ptr (.clause c)) ∧ (watC A L)[k * 2 + 1]? = some (i32 o) := by
  obtain ⟨hk, he⟩ := List.getElem?_eq_some_iff.1 h
  have e := watC_drop A L k
  rw [List.drop_eq_getElem_cons hk, he] at e
  constructor
  · have : ((watC A L).drop (k * 2))[0]? = some (A.ptr (.clause c)) := by rw [e]; simp [watC]
    simpa using this
  · have : ((watC A L).drop (k * 2))[1]? = some (i32 o) := by rw [e]; simp [watC]
    simpa using this

/-- Watches are written over. -/
theorem Mem.putWin {W : World} {A : Ad} {s : Sv} {l : Nat} {L : List (Nat × Nat)} (hl : l < s.ws.length) (h : Mem W A (s.setW l L)) {b : Nat} (hb : A.blk (.win l) = some b) (k : Nat) (Y : List (Nat × Nat)) (hk : k + Y.length ≤ L.length) :
    Mem (W.setCells b (k * 2) (watC A Y)) A (s.setW l (L.take k ++ Y ++ L.drop (k + Y.length))) := by
  have W1 := wat_setW hl L
  have W2 := wat_setW hl (L.take k ++ Y ++ L.drop (k + Y.length))
  have hlen : (L.take k ++ Y ++ L.drop (k + Y.length)).length = L.length := by simp; omega
  have hw2 : ∀ l', ((s.setW l (L.take k ++ Y ++ L.drop (k + Y.length))).wat l').length = ((s.setW l L).wat l').length := fun l' => by
    rw [W1, W2]
    split
    · exact hlen
    · rfl
  have hws : (s.setW l (L.take k ++ Y ++ L.drop (k + Y.length))).ws.map List.length = (s.setW l L).ws.map List.length := by
    simp only [Sv.setW, List.map_set, hlen]
  have hwo : cellsR A (s.setW l (L.take k ++ Y ++ L.drop (k + Y.length))) .wout = cellsR A (s.setW l L) .wout := by
    simp only [cellsR]
    apply List.ext_getElem?
    intro j
    rw [List.getElem?_mapIdx, List.getElem?_mapIdx]
    have := congrArg (fun x => x[j]?) hws
    simp only [List.getElem?_map] at this
    cases e1 : (s.setW l (L.take k ++ Y ++ L.drop (k + Y.length))).ws[j]? with
    | none => rw [e1] at this; cases e2 : (s.setW l L).ws[j]? with
      | none => rfl
      | some y => rw [e2] at this; simp at this
    | some x => rw [e1] at this; cases e2 : (s.setW l L).ws[j]? with
      | none => rw [e2] at this; simp at this
      | some y => rw [e2] at this; simp at this; simp [this]
  have hcell : ∀ r, r ≠ .win l → cellsR A (s.setW l (L.take k ++ Y ++ L.drop (k + Y.length))) r = cellsR A (s.setW l L) r := fun r hr => by
    cases r <;> first | rfl | exact hwo | skip
    case win l' =>
      have hne : l' ≠ l := fun e => hr (by rw [e])
      simp only [cellsR, W1, W2, if_neg hne]
  refine ⟨h.inj, fun r b1 h1 => ?_, h.fix, h.cls, h.rows, fun l' e => ?_, h.nil1, h.nil2, h.even, fun r hg => ?_, h.flat, h.lv, by simpa [Sv.setW] using h.lw, h.ls, h.lp, h.small, h.endk⟩
  · by_cases e1 : r = .win l
    · subst e1
      rw [hb] at h1
      cases h1
      have h3 := h.has _ _ hb
      simp only [cellsR, W1, if_true] at h3
      rw [setCells_heap b _ _ _ _ _ _ h3 (by simp [watC_len]; omega)]
      simp only [cellsR, W2, if_true]
      congr 3
      rw [List.take_append_of_le_length (by simp [watC_len]; omega), watC_take, watC_len, ← Nat.add_mul, List.drop_append_of_le_length (by simp [watC_len]; omega), watC_drop, watC_append, watC_append]
      simp
    · rw [hcell r e1, setCells_other b _ _ _ _ (fun e2 => e1 (h.inj _ _ _ h1 (by rw [e2]; exact hb)))]
      exact h.has r b1 h1
  · have := h.win l' e
    rw [W1] at this
    rw [W2]
    split
    · next e2 => subst e2; rw [hb] at e; cases e
    · next e2 => rwa [if_neg e2] at this
  · have hc := h.caps r hg
    have : lenR (s.setW l (L.take k ++ Y ++ L.drop (k + Y.length))) r = lenR (s.setW l L) r := by
      cases r <;> first | rfl | skip
      case win l' => exact hw2 l'
    rw [this]
    exact hc

/-- A row of watches is cut. -/
theorem Mem.cutWin {W : World} {A : Ad} {s : Sv} {l : Nat} {X Y : List (Nat × Nat)} (hl : l < s.ws.length) (h : Mem W A (s.setW l (X ++ Y))) {wb b : Nat} (hwb : A.blk .wout = some wb) (hb : A.blk (.win l) = some b) :
    Mem (W.setCell ⟨wb, l, none⟩ (.slice (some ⟨b, 0, none⟩) X.length (X.length + Y.length + (A.sp (.win l)).length / 2))) (A.up (.win l) b (watC A Y ++ A.sp (.win l))) (s.setW l X) := by
  have W1 := wat_setW hl (X ++ Y)
  have W2 := wat_setW hl X
  have hup : ∀ r, (A.up (.win l) b (watC A Y ++ A.sp (.win l))).blk r = A.blk r := fun r => by
    show (if r = .win l then some b else A.blk r) = _
    split
    · next e => rw [e, hb]
    · rfl
  have hus : ∀ r, r ≠ .win l → (A.up (.win l) b (watC A Y ++ A.sp (.win l))).sp r = A.sp r := fun r hr => if_neg hr
  have hus2 : (A.up (.win l) b (watC A Y ++ A.sp (.win l))).sp (.win l) = watC A Y ++ A.sp (.win l) := if_pos rfl
  have hslv : ∀ r k z, r ≠ .win l → (A.up (.win l) b (watC A Y ++ A.sp (.win l))).slv r k z = A.slv r k z := fun r k z hr => by unfold Ad.slv; rw [hup r, hus r hr]
  have hptr : ∀ r, (A.up (.win l) b (watC A Y ++ A.sp (.win l))).ptr r = A.ptr r := fun r => by unfold Ad.ptr; rw [hup r]
  have hwc : ∀ x, watC (A.up (.win l) b (watC A Y ++ A.sp (.win l))) x = watC A x := fun x => congrArg (fun f => x.flatMap f) (funext fun w => by rw [hptr])
  obtain ⟨kk, hkk⟩ := h.even (.win l) rfl
  have hkk : (A.sp (.win l)).length = kk * 2 := hkk
  have hdiv : (watC A Y ++ A.sp (.win l)).length / 2 = Y.length + kk := by
    rw [List.length_append, watC_len, hkk]; omega
  have hdiv2 : (A.sp (.win l)).length / 2 = kk := by rw [hkk]; omega
  have hslt : (A.up (.win l) b (watC A Y ++ A.sp (.win l))).slv (.win l) X.length 2 = .slice (some ⟨b, 0, none⟩) X.length (X.length + Y.length + (A.sp (.win l)).length / 2) := by
    unfold Ad.slv
    rw [hup, hb, hus2]
    simp only [hdiv, hdiv2, Nat.add_assoc]
  have hcell : ∀ r, r ≠ .win l → r ≠ .wout → cellsR (A.up (.win l) b (watC A Y ++ A.sp (.win l))) (s.setW l X) r = cellsR A (s.setW l (X ++ Y)) r := by
    intro r h1 h2
    cases r <;> first | exact absurd rfl h2 | skip
    case win l' =>
      have hne : l' ≠ l := fun e => h1 (by rw [e])
      simp only [cellsR, hwc, hus _ h1, W1, W2, if_neg hne]
    all_goals simp only [cellsR, searchC]
    all_goals first | rfl | skip
    all_goals simp [hslv, hus, hptr, Sv.setW, Sv.lits]
    all_goals first | rfl | exact ⟨rfl, rfl⟩
  have hout : cellsR (A.up (.win l) b (watC A Y ++ A.sp (.win l))) (s.setW l X) .wout = (cellsR A (s.setW l (X ++ Y)) .wout).set l (.slice (some ⟨b, 0, none⟩) X.length (X.length + Y.length + (A.sp (.win l)).length / 2)) := by
    simp only [cellsR, Sv.setW]
    apply List.ext_getElem?
    intro j
    by_cases e : l = j
    · subst e
      rw [List.getElem?_mapIdx, List.getElem?_set_self hl, List.getElem?_set_self (by simpa using hl)]
      simp [hslt]
    · rw [List.getElem?_mapIdx, List.getElem?_set_ne e, List.getElem?_set_ne e, List.getElem?_mapIdx, List.getElem?_set_ne e]
      cases s.ws[j]? with
      | none => rfl
      | some x => simp [hslv _ _ _ (show Role.win j ≠ .win l by intro e2; cases e2; exact e rfl)]
  refine ⟨fun r r' b1 h1 h2 => h.inj r r' b1 ((hup r).symm.trans h1) ((hup r').symm.trans h2), fun r b1 h1 => ?_, fun r hr => by rw [hup]; exact h.fix r hr, fun d => by rw [hup]; exact h.cls d, fun d => by rw [hup]; exact h.rows d, fun l' e => ?_, fun e => h.nil1 ((hup _).symm.trans e), fun e => h.nil2 ((hup _).symm.trans e), fun r hg => ?_, fun r hg => ?_, ?_, h.lv, by simpa [Sv.setW] using h.lw, h.ls, h.lp, h.small, h.endk⟩
  · rw [hup] at h1
    by_cases e1 : r = .win l
    · subst e1
      rw [hb] at h1
      cases h1
      have hne : b ≠ wb := fun e => by have := h.inj _ _ _ hb (e ▸ hwb); cases this
      rw [Below.heap_setCell _ _ _ _ hne, h.has _ _ hb]
      simp only [cellsR, hwc, W1, W2, if_true, hus2, watC_append, List.append_assoc]
    · by_cases e2 : r = .wout
      · subst e2
        rw [hwb] at h1
        cases h1
        have h3 := h.has _ _ hwb
        rw [hout]
        unfold World.setCell
        simp [Array.getElem?_modify, h3]
      · rw [hcell r e1 e2, Below.heap_setCell _ _ _ _ (fun e3 => e2 (h.inj _ _ _ h1 (by rw [hwb]; exact congrArg some e3.symm)))]
        exact h.has r b1 h1
  · rw [hup] at e
    have := h.win l' e
    rw [W2]
    split
    · next e2 => subst e2; rw [hb] at e; cases e
    · next e2 => rwa [W1, if_neg e2] at this
  · by_cases e1 : r = .win l
    · subst e1
      exact ⟨Y.length + kk, by rw [hus2, List.length_append, watC_len, hkk]; simp only [sizR]; omega⟩
    · rw [hus r e1]; exact h.even r hg
  · have hc := h.caps r hg
    by_cases e1 : r = .win l
    · subst e1
      simp only [lenR, W1, if_true, sizR, hdiv2, List.length_append] at hc
      simp only [lenR, W2, if_true, sizR, hus2, hdiv]
      omega
    · rw [hus r e1]
      have : lenR (s.setW l X) r = lenR (s.setW l (X ++ Y)) r := by
        cases r <;> first | rfl | skip
        case win l' =>
          have hne : l' ≠ l := fun e => e1 (by rw [e])
          simp only [lenR, W1, W2, if_neg hne]
      rw [this]; exact hc
  · have hf := h.flat
    refine ⟨?_, ?_, ?_, ?_, ?_, ?_, ?_, ?_, ?_⟩
    all_goals rw [hus _ (by intro e; cases e)]
    · exact hf.1
    · exact hf.2.1
    · exact hf.2.2.1
    · exact hf.2.2.2.1
    · exact hf.2.2.2.2.1
    · exact hf.2.2.2.2.2.1
    · exact hf.2.2.2.2.2.2.1
    · exact hf.2.2.2.2.2.2.2.1
    · exact hf.2.2.2.2.2.2.2.2

theorem Mem.alloc {W : World} {A : Ad} {s : Sv} (h : Mem W A s) (O : Obj) : Mem (W.alloc O) A s := h.keep (fun _ ⟨_, hr⟩ => Below.heap_alloc _ _ _ (h.lt hr))
theorem Step.alloc {w W : World} {A A1 : Ad} {s : Sv} (h : Step w W A A1 s) (O : Obj) : Step w (W.alloc O) A A1 s := h.trans ⟨h.mem.alloc O, (Kept.refl _ W).alloc O, fun _ hk => Or.inl hk⟩

end Go.Proofs.YtlehlgipbhfioaaGreat

namespace Go.Proofs.YtlehlgipbhfioaaGreat
open Go.RowKit Go.Maps

theorem new_val (n l : Nat) : (Sv.new n).val l = 0 := by
  unfold Sv.new Sv.val
  simp only [List.getElem?_replicate]
  split <;> rfl
theorem new_wat (n l : Nat) : (Sv.new n).wat l = [] := by
  unfold Sv.new Sv.wat
  simp only [List.getElem?_replicate]
  split <;> rfl
theorem Fw.new (n : Nat) : Fw (Sv.new n) := by
  have hl : ∀ c, (Sv.new n).lits c = [] := fun c => by simp [Sv.new, Sv.lits]
  refine ⟨⟨by simp [Sv.new], by simp [Sv.new], fun l _ => by rw [new_val, new_val]; rfl, fun l => Or.inr (Or.inl (new_val n l)), fun l => ?_, by simp [Sv.new], fun c => by simp [hl], fun l => by simp [new_wat], fun l p hp => by simp [new_wat] at hp⟩, Nat.le_refl _, fun c a b r e => ?_, fun c a b r e => ?_⟩
  · rw [new_val]; simp [Sv.new]
  · rw [hl] at e; cases e
  · rw [hl] at e; cases e

/-- A clause more. -/
def Sv.more (s : Sv) (ls : List Nat) : Sv := { s with cl := s.cl ++ [ls] }
theorem lits_more (s : Sv) (ls : List Nat) (c : Nat) : (s.more ls).lits c = if c = s.cl.length then ls else s.lits c := by
  unfold Sv.more Sv.lits
  by_cases e : c = s.cl.length
  · subst e; simp
  · rw [if_neg e]
    simp only
    by_cases e2 : c < s.cl.length
    · rw [List.getElem?_append_left e2]
    · rw [List.getElem?_eq_none (by simp; omega), List.getElem?_eq_none (by omega)]
theorem lits_out {s : Sv} {c : Nat} (h : s.cl.length ≤ c) : s.lits c = [] := by unfold Sv.lits; rw [List.getElem?_eq_none h]; rfl
theorem Fit.more {s : Sv} (h : Fit s) {ls : List Nat} (hn : ls.Nodup) (hl : ∀ l ∈ ls, l < 2 * s.n + 2) : Fit (s.more ls) := by
  refine ⟨h.lv, h.lw, h.sgn, h.tri, h.on, h.nd, fun c => ?_, h.wnd, fun l p hp => ?_⟩
  · rw [lits_more]
    split
    · exact ⟨hn, hl⟩
    · exact h.cls c
  · obtain ⟨h1, h2, h3⟩ := h.wat l p hp
    rw [lits_more, if_neg (by omega)]
    exact ⟨by simp [Sv.more]; omega, h2, h3⟩

/-- What stands when clauses were taken in. -/
structure Taken (s : Sv) (n : Nat) (cs : List (List Nat)) : Prop where
  nn : s.n = n
  cl : s.cl = cs
  seen : s.seen = 0
  starts : s.starts = []
  hp : s.hp = List.range (n + 1)
  fo : Fw s
  unit : s.fin = false → ∀ l, [l] ∈ cs → s.val l = 1
  nil : s.fin = false → [] ∉ cs

theorem Fw.at0 {s : Sv} (hF : Fit s) (h0 : s.seen = 0) (hw : ∀ c a b rest, s.lits c = a :: b :: rest → (∃ o, (c, o) ∈ s.wat a) ∧ ∃ o, (c, o) ∈ s.wat b) : Fw s :=
  ⟨hF, by omega, hw, fun c a b r e hh => by rw [h0] at hh; simp at hh⟩

theorem Taken.new (n : Nat) : Taken (Sv.new n) n [] := ⟨rfl, rfl, rfl, rfl, rfl, Fw.new n, fun _ => by simp, fun _ => by simp⟩

theorem Taken.add {s : Sv} {n : Nat} {cs : List (List Nat)} (h : Taken s n cs) {ls : List Nat} (hn : ls.Nodup) (hl : ∀ l ∈ ls, l < 2 * n + 2) : Taken (s.add ls) n (cs ++ [ls]) := by
  have hl' : ∀ l ∈ ls, l < 2 * s.n + 2 := by rw [h.nn]; exact hl
  have hF := h.fo.fit.more hn hl'
  have hcl : (s.more ls).cl = cs ++ [ls] := by show s.cl ++ [ls] = _; rw [h.cl]
  have hwat : ∀ c, c ≠ s.cl.length → ∀ a b rest, (s.more ls).lits c = a :: b :: rest → (∃ o, (c, o) ∈ s.wat a) ∧ ∃ o, (c, o) ∈ s.wat b := fun c hc a b r e => by
    rw [lits_more, if_neg hc] at e
    exact h.fo.wi.wat c a b r e
  match ls, hn, hl, hl', hF, hcl, hwat with
  | [], _, _, _, hF, hcl, hwat =>
    refine ⟨h.nn, hcl, h.seen, h.starts, h.hp, Fw.at0 ⟨hF.lv, hF.lw, hF.sgn, hF.tri, hF.on, hF.nd, hF.cls, hF.wnd, hF.wat⟩ h.seen (fun c a b r e => ?_), fun e => (by cases e), fun e => (by cases e)⟩
    have e : (s.more []).lits c = a :: b :: r := e
    by_cases ec : c = s.cl.length
    · rw [lits_more, if_pos ec] at e; cases e
    · exact hwat c ec a b r e
  | [l], _, hl, hl', hF, hcl, hwat =>
    have hll : l < 2 * s.n + 2 := hl' l (by simp)
    have hfo : Fw (s.more [l]) := Fw.at0 hF h.seen (fun c a b r e => by
      by_cases ec : c = s.cl.length
      · rw [lits_more, if_pos ec] at e; cases e
      · exact hwat c ec a b r e)
    show Taken (Sv.addFact (s.more [l]) l) n _
    unfold Sv.addFact
    by_cases h1 : (s.more [l]).val l = -1
    · rw [if_pos h1]
      exact ⟨h.nn, hcl, h.seen, h.starts, h.hp, ⟨⟨hF.lv, hF.lw, hF.sgn, hF.tri, hF.on, hF.nd, hF.cls, hF.wnd, hF.wat⟩, hfo.le, hfo.wi.wat, hfo.wi.yes⟩, fun e => (by cases e), fun e => (by cases e)⟩
    · rw [if_neg h1]
      have hold : s.fin = false → ∀ l', [l'] ∈ cs ++ [[l]] → l' ≠ l → s.val l' = 1 := fun e l' hl' hne => by
        rcases List.mem_append.1 hl' with hl' | hl'
        · exact h.unit e l' hl'
        · simp at hl'; exact absurd hl' hne
      have hnil : s.fin = false → [] ∉ cs ++ [[l]] := fun e => by simpa using h.nil e
      by_cases h0 : (s.more [l]).val l = 0
      · rw [if_pos h0]
        have G := Grow.assign hF hll h0
        refine ⟨h.nn, hcl, h.seen, h.starts, h.hp, ⟨hF.assign hll h0, ?_, ?_⟩, fun e l' hl' => ?_, hnil⟩
        · show s.seen ≤ _
          rw [h.seen]; omega
        · have := hfo.wi.assign hF hll h0
          refine this.mono (fun c x hx => ?_)
          have hx : opp x ∈ (s.trail ++ [l]).take s.seen := hx
          rw [h.seen] at hx
          simp at hx
        · by_cases e2 : l' = l
          · subst e2
            exact (val_assign hF hll l').trans (if_pos rfl)
          · exact G.yes l' (hold e l' hl' e2)
      · rw [if_neg h0]
        refine ⟨h.nn, hcl, h.seen, h.starts, h.hp, hfo, fun e l' hl' => ?_, hnil⟩
        by_cases e2 : l' = l
        · subst e2
          rcases hF.tri l' with t | t | t
          · exact absurd t h1
          · exact absurd t h0
          · exact t
        · exact hold e l' hl' e2
  | a :: b :: r, hn, hl, hl', hF, hcl, hwat =>
    have hL : (s.more (a :: b :: r)).lits s.cl.length = a :: b :: r := by rw [lits_more, if_pos rfl]
    show Taken (Sv.watch (s.more (a :: b :: r)) s.cl.length) n _
    have hab : a ≠ b := fun e => by simp [e] at hn
    have ha : a < (s.more (a :: b :: r)).ws.length := by rw [hF.lw]; exact hl' a (by simp)
    have hb : b < ((s.more (a :: b :: r)).addW a s.cl.length b).ws.length := by simp only [Sv.addW, List.length_set]; rw [hF.lw]; exact hl' b (by simp)
    have e0 : Sv.watch (s.more (a :: b :: r)) s.cl.length = ((s.more (a :: b :: r)).addW a s.cl.length b).addW b s.cl.length a := by
      unfold Sv.watch; rw [hL]; rfl
    have W : ∀ l, (((s.more (a :: b :: r)).addW a s.cl.length b).addW b s.cl.length a).wat l = if l = a then s.wat a ++ [(s.cl.length, b)] else if l = b then s.wat b ++ [(s.cl.length, a)] else s.wat l := fun l => by
      have hwm : ∀ x, (s.more (a :: b :: r)).wat x = s.wat x := fun _ => rfl
      rw [wat_addW hb, wat_addW ha, wat_addW ha, hwm, hwm, hwm, if_neg (show ¬ b = a from fun e => hab e.symm)]
      by_cases e : l = a
      · subst e
        rw [if_pos rfl, if_pos rfl, if_neg hab]
      · rw [if_neg e, if_neg e]
    have hlits : ∀ c, (((s.more (a :: b :: r)).addW a s.cl.length b).addW b s.cl.length a).lits c = (s.more (a :: b :: r)).lits c := fun _ => rfl
    have hin : ∀ l p, p ∈ s.wat l → p ∈ (((s.more (a :: b :: r)).addW a s.cl.length b).addW b s.cl.length a).wat l := fun l p hp => by
      rw [W]
      split
      · next e => rw [e] at hp; simp [hp]
      · split
        · next e => rw [e] at hp; simp [hp]
        · exact hp
    rw [e0]
    refine ⟨h.nn, hcl, h.seen, h.starts, h.hp, Fw.at0 ⟨hF.lv, by simp only [Sv.addW, List.length_set]; exact hF.lw, hF.sgn, hF.tri, hF.on, hF.nd, hF.cls, fun l => ?_, fun l p hp => ?_⟩ h.seen (fun c a' b' r' e => ?_), fun e l' hl' => ?_, fun e => ?_⟩
    · have hw := h.fo.fit.wnd l
      have hnew : s.cl.length ∉ (s.wat l).map Prod.fst := fun hm => by
        obtain ⟨p, hp, he⟩ := List.mem_map.1 hm
        have := (h.fo.fit.wat l p hp).1
        omega
      rw [W]
      have key : ∀ x : Nat, ((s.wat l ++ [(s.cl.length, x)]).map Prod.fst).Nodup := fun x => by
        rw [List.map_append, List.nodup_append]
        refine ⟨hw, by simp, fun y hy z hz => ?_⟩
        simp at hz
        subst hz
        exact fun e => hnew (e ▸ hy)
      split
      · next e => rw [← e]; exact key b
      · split
        · next e => rw [← e]; exact key a
        · exact hw
    · rw [W] at hp
      have old : p ∈ s.wat l → p.1 < (s.more (a :: b :: r)).cl.length ∧ p.2 ∈ (s.more (a :: b :: r)).lits p.1 ∧ ∃ a' b' rest, (s.more (a :: b :: r)).lits p.1 = a' :: b' :: rest ∧ (l = a' ∨ l = b') := fun hp => hF.wat l p hp
      have fresh : ∀ x, x ∈ a :: b :: r → l = a ∨ l = b → s.cl.length < (s.more (a :: b :: r)).cl.length ∧ x ∈ (s.more (a :: b :: r)).lits s.cl.length ∧ ∃ a' b' rest, (s.more (a :: b :: r)).lits s.cl.length = a' :: b' :: rest ∧ (l = a' ∨ l = b') := fun x hx hlab => by
        rw [hL]
        exact ⟨by simp [Sv.more], hx, a, b, r, rfl, hlab⟩
      split at hp
      · next e =>
        rcases List.mem_append.1 hp with hp | hp
        · exact old (e ▸ hp)
        · simp at hp
          subst hp
          exact fresh b (by simp) (Or.inl e)
      · split at hp
        · next e =>
          rcases List.mem_append.1 hp with hp | hp
          · exact old (e ▸ hp)
          · simp at hp
            subst hp
            exact fresh a (by simp) (Or.inr e)
        · exact old hp
    · rw [hlits] at e
      by_cases ec : c = s.cl.length
      · subst ec
        rw [hL] at e
        cases e
        refine ⟨⟨b, ?_⟩, a, ?_⟩
        · rw [W, if_pos rfl]; simp
        · rw [W, if_neg (fun e => hab e.symm), if_pos rfl]; simp
      · obtain ⟨⟨o1, w1⟩, o2, w2⟩ := hwat c ec a' b' r' e
        exact ⟨⟨o1, hin _ _ w1⟩, o2, hin _ _ w2⟩
    · rcases List.mem_append.1 hl' with hl' | hl'
      · exact h.unit e l' hl'
      · simp at hl'
    · have := h.nil e
      simp [this]

theorem Taken.all {n : Nat} : ∀ (ds : List (List Nat)) (s : Sv) (cs : List (List Nat)), Taken s n cs → (∀ d ∈ ds, d.Nodup ∧ ∀ l ∈ d, l < 2 * n + 2) → Taken (ds.foldl (fun s c => s.add c) s) n (cs ++ ds)
  | [], s, cs, h, _ => by simpa using h
  | d :: ds, s, cs, h, hd => by
    have := Taken.all ds (s.add d) (cs ++ [d]) (h.add (hd d (by simp)).1 (hd d (by simp)).2) (fun d' h' => hd d' (by simp [h']))
    simpa using this

/-- What must be true by the clauses, one after the other. -/
inductive Forced (cs : List (List Nat)) : Nat → Prop
  | by_ {c : List Nat} {l : Nat} : c ∈ cs → l ∈ c → (∀ x ∈ c, x ≠ l → Forced cs (opp x)) → Forced cs l

/-- If two opposites are forced, the search says no. -/
theorem Taken.no {s : Sv} {n : Nat} {cs : List (List Nat)} (h : Taken s n cs) (hc : ∀ d ∈ cs, d.Nodup ∧ ∀ l ∈ d, l < 2 * n + 2) {l : Nat} (h1 : Forced cs l) (h2 : Forced cs (opp l)) (f : Nat) : ∃ s', Sv.run (f + 2) s = some (false, s') := by
  rw [Sv.run]
  cases hfin : s.fin with
  | true => exact ⟨s, rfl⟩
  | false =>
    simp only [Bool.false_eq_true, if_false]
    obtain ⟨o, s', e1, e2, e3, e4⟩ := follow_ok (2 * s.n + 3) s h.fo (by omega)
    rw [e1]
    cases o with
    | some c =>
      simp only
      rw [e2.starts, h.starts]
      simp only [List.length_nil, if_true, Sv.run]
      exact ⟨_, rfl⟩
    | none =>
      exfalso
      obtain ⟨hfo, hseen⟩ := e4 rfl
      have lt : ∀ l, Forced cs l → l < 2 * s'.n + 2 := fun l hf => by
        cases hf with
        | by_ hc' hl _ => rw [e2.n, h.nn]; exact (hc _ hc').2 l hl
      have key : ∀ l, Forced cs l → s'.val l = 1 := fun l hf => by
        induction hf with
        | @by_ c l hc' hl hx ih =>
          have no : ∀ x ∈ c, x ≠ l → s'.val x = -1 := fun x hxc hne => by
            have h3 := ih x hxc hne
            have h4 := e3.sgn x (by rw [e2.n, h.nn]; exact (hc c hc').2 x hxc)
            rw [h3] at h4
            omega
          obtain ⟨i, hi, he⟩ := List.mem_iff_getElem.1 hc'
          have hlc : s.lits i = c := by
            unfold Sv.lits
            rw [h.cl, List.getElem?_eq_getElem hi, he]; rfl
          by_cases h2 : 2 ≤ c.length
          · rcases hfo.done hseen i (by rw [e2.size, hlc]; exact h2) with ⟨x, x1, x2⟩ | ⟨a, b, hab, ha, hb, va, vb⟩
            · rw [e2.lits, hlc] at x1
              by_cases ex : x = l
              · rw [← ex]; exact x2
              · have := no x x1 ex
                omega
            · rw [e2.lits, hlc] at ha hb
              by_cases ea : a = l
              · exact absurd (no b hb (fun eb => hab (ea.trans eb.symm))) vb
              · exact absurd (no a ha ea) va
          · have : c = [l] := by
              match c, hl, h2 with
              | [x], hl, _ => simp at hl; rw [hl]
              | _ :: _ :: _, _, h2 => simp at h2
            exact e2.yes l (h.unit hfin l (this ▸ hc'))
      have k1 := key l h1
      have k2 := key _ h2
      have k3 := e3.sgn l (lt l h1)
      omega

theorem visit_nil {s : Sv} {g : Nat} (h : s.wat g = []) : s.visit g = (none, s.setW g []) := by unfold Sv.visit; rw [h]; rfl
theorem wat_nil {s : Sv} (h : ∀ l, s.wat l = []) (g : Nat) (l : Nat) : (s.setW g []).wat l = [] := by
  by_cases hg : g < s.ws.length
  · rw [wat_setW hg]; split
    · rfl
    · exact h l
  · unfold Sv.setW
    rw [List.set_eq_of_length_le (by omega)]
    exact h l
theorem follow_nil : ∀ (f : Nat) (s : Sv) (o : Option Nat) (s' : Sv), (∀ l, s.wat l = []) → Sv.follow f s = some (o, s') → o = none ∧ ∀ l, s'.wat l = []
  | 0, _, _, _, _, h => by cases h
  | f + 1, s, o, s', hw, h => by
    rw [Sv.follow] at h
    cases hl : s.trail[s.seen]? with
    | none => rw [hl] at h; cases h; exact ⟨rfl, hw⟩
    | some l =>
      rw [hl] at h
      simp only [visit_nil (s := { s with seen := s.seen + 1 }) (g := opp l) (hw _)] at h
      exact follow_nil f _ o s' (wat_nil (s := { s with seen := s.seen + 1 }) hw _) h

theorem pop_mem {s s' : Sv} {o : Option Nat} (h : s.pop = (o, s')) (hhp : ∀ v ∈ s.hp, v ≤ s.n) : (s' = { s with hp := s'.hp }) ∧ (∀ v ∈ s'.hp, v ≤ s.n) ∧ (∀ v, o = some v → v ≤ s.n ∧ s'.hp.length + 1 = s.hp.length) := by
  unfold Sv.pop at h
  split at h
  · cases h
    exact ⟨rfl, hhp, fun v e => (by cases e)⟩
  · next hlt =>
    have hl1 : 1 < s.hp.length := by omega
    have hl2 : s.hp.length - 1 < s.hp.length := by omega
    have h1 := hhp _ (List.getElem_mem hl1)
    have h2 := hhp _ (List.getElem_mem hl2)
    simp only [List.getElem?_eq_getElem hl1, List.getElem?_eq_getElem hl2, Option.getD_some] at h
    cases h
    refine ⟨rfl, fun v hv => ?_, fun v e => ?_⟩
    · have hv := List.mem_of_mem_take hv
      rcases List.mem_or_eq_of_mem_set hv with hv | hv
      · exact hhp v hv
      · rw [hv]; exact h2
    · cases e
      refine ⟨h1, ?_⟩
      simp; omega

/-- What try leaves, where nothing is watched. -/
theorem try_ok : ∀ (f : Nat) (s : Sv), s.hp.length + 1 ≤ f → Fw s → (∀ l, s.wat l = []) → (∀ v ∈ s.hp, v ≤ s.n) →
    ∃ b s', Sv.tryN f s = some (b, s') ∧ Fw s' ∧ (∀ l, s'.wat l = []) ∧ s'.n = s.n ∧ s'.fin = s.fin ∧ (∀ v ∈ s'.hp, v ≤ s.n) ∧ (∀ l, s.val l = 1 → s'.val l = 1) ∧ (b = true → s'.hp.length < s.hp.length)
  | 0, _, h, _, _, _ => by omega
  | f + 1, s, hf, hfo, hw, hhp => by
    rw [Sv.tryN]
    cases hp : s.pop with
    | mk o s1 =>
      obtain ⟨e1, e2, e3⟩ := pop_mem hp hhp
      have hfo1 : Fw s1 := by
        rw [e1]
        exact ⟨⟨hfo.fit.lv, hfo.fit.lw, hfo.fit.sgn, hfo.fit.tri, hfo.fit.on, hfo.fit.nd, hfo.fit.cls, hfo.fit.wnd, hfo.fit.wat⟩, hfo.le, hfo.wi.wat, hfo.wi.yes⟩
      have hw1 : ∀ l, s1.wat l = [] := fun l => by rw [e1]; exact hw l
      have hn1 : s1.n = s.n := by rw [e1]
      have hv1 : ∀ l, s1.val l = s.val l := fun l => by rw [e1]; rfl
      have hf1 : s1.fin = s.fin := by rw [e1]
      cases o with
      | none => exact ⟨false, s1, rfl, hfo1, hw1, hn1, hf1, e2, fun l e => by rw [hv1]; exact e, fun e => (by cases e)⟩
      | some v =>
        obtain ⟨hv, hlen⟩ := e3 v rfl
        simp only
        by_cases h0 : s1.val (2 * v + 1) = 0
        · rw [if_pos h0]
          have hlt : 2 * v + 1 < 2 * s1.n + 2 := by omega
          have hF2 : Fit { s1 with starts := s1.starts ++ [s1.trail.length] } := ⟨hfo1.fit.lv, hfo1.fit.lw, hfo1.fit.sgn, hfo1.fit.tri, hfo1.fit.on, hfo1.fit.nd, hfo1.fit.cls, hfo1.fit.wnd, hfo1.fit.wat⟩
          have hW2 : Wi { s1 with starts := s1.starts ++ [s1.trail.length] } (fun _ l => opp l ∈ s1.trail.take s1.seen) := ⟨hfo1.wi.wat, hfo1.wi.yes⟩
          refine ⟨true, _, rfl, ⟨hF2.assign hlt h0, ?_, ?_⟩, hw1, hn1, hf1, e2, fun l e => (Grow.assign hF2 hlt h0).yes l (by show s1.val l = 1; rw [hv1]; exact e), fun _ => ?_⟩
          · show s1.seen ≤ (s1.trail ++ [2 * v + 1]).length
            have := hfo1.le
            simp; omega
          · refine (hW2.assign hF2 hlt h0).mono (fun _ l hl => ?_)
            have hl : opp l ∈ (s1.trail ++ [2 * v + 1]).take s1.seen := hl
            rwa [List.take_append_of_le_length hfo1.le] at hl
          · show s1.hp.length < _
            omega
        · rw [if_neg h0]
          obtain ⟨b, s', g1, g2, g3, g4, g5, g6, g7, g8⟩ := try_ok f s1 (by omega) hfo1 hw1 (by rw [hn1]; exact e2)
          exact ⟨b, s', g1, g2, g3, g4.trans hn1, g5.trans hf1, by rw [← hn1]; exact g6, fun l e => g7 l (by rw [hv1]; exact e), fun e => by have := g8 e; omega⟩

/-- The search says yes, where nothing is watched. -/
theorem run_yes : ∀ (f : Nat) (s : Sv), s.hp.length + 1 ≤ f → Fw s → (∀ l, s.wat l = []) → (∀ v ∈ s.hp, v ≤ s.n) → s.fin = false →
    ∃ s', Sv.run f s = some (true, s') ∧ Fit s' ∧ s'.n = s.n ∧ ∀ l, s.val l = 1 → s'.val l = 1
  | 0, _, h, _, _, _, _ => by omega
  | f + 1, s, hf, hfo, hw, hhp, hfin => by
    rw [Sv.run, hfin]
    simp only [Bool.false_eq_true, if_false]
    obtain ⟨o, s1, e1, e2, e3, e4⟩ := follow_ok (2 * s.n + 3) s hfo (by omega)
    obtain ⟨rfl, hw1⟩ := follow_nil _ _ _ _ hw e1
    rw [e1]
    simp only
    obtain ⟨hfo1, _⟩ := e4 rfl
    obtain ⟨b, s2, g1, g2, g3, g4, g5, g6, g7, g8⟩ := try_ok (s1.hp.length + 1) s1 (Nat.le_refl _) hfo1 hw1 (by rw [e2.hp, e2.n]; exact hhp)
    rw [g1]
    cases b with
    | false => exact ⟨s2, rfl, g2.fit, g4.trans e2.n, fun l e => g7 l (e2.yes l e)⟩
    | true =>
      have hlt := g8 rfl
      rw [e2.hp] at hlt
      obtain ⟨s', k1, k2, k3, k4⟩ := run_yes f s2 (by omega) g2 g3 (by rw [g4]; exact g6) (by rw [g5, e2.fin]; exact hfin)
      exact ⟨s', k1, k2, k3.trans (g4.trans e2.n), fun l e => k4 l (g7 l (e2.yes l e))⟩

/-- Units that go together. -/
theorem Taken.units {n : Nat} {M : Nat → Prop} (hM : ∀ l, M l → ¬ M (opp l)) : ∀ (ds : List (List Nat)) (s : Sv) (cs : List (List Nat)), Taken s n cs → (∀ l, s.wat l = []) → s.fin = false → (∀ l, s.val l = 1 → M l) → (∀ d ∈ ds, ∃ l, d = [l] ∧ M l ∧ l < 2 * n + 2) →
    (∀ l, (ds.foldl (fun s c => s.add c) s).wat l = []) ∧ (ds.foldl (fun s c => s.add c) s).fin = false
  | [], s, _, _, hw, hf, _, _ => ⟨hw, hf⟩
  | d :: ds, s, cs, h, hw, hf, hv, hd => by
    obtain ⟨l, rfl, hMl, hlt⟩ := hd d (by simp)
    have hT := h.add (ls := [l]) (by simp) (by simpa using hlt)
    have hF := h.fo.fit.more (ls := [l]) (by simp) (by rw [h.nn]; simpa using hlt)
    have hlt' : l < 2 * (s.more [l]).n + 2 := by show l < 2 * s.n + 2; rw [h.nn]; exact hlt
    have key : (∀ l', (s.add [l]).wat l' = []) ∧ (s.add [l]).fin = false ∧ ∀ l', (s.add [l]).val l' = 1 → M l' := by
      show (∀ l', (Sv.addFact (s.more [l]) l).wat l' = []) ∧ (Sv.addFact (s.more [l]) l).fin = false ∧ ∀ l', (Sv.addFact (s.more [l]) l).val l' = 1 → M l'
      unfold Sv.addFact
      by_cases h1 : (s.more [l]).val l = -1
      · exfalso
        have h2 := hF.sgn l hlt'
        rw [h1] at h2
        exact hM l hMl (hv _ h2)
      · rw [if_neg h1]
        by_cases h0 : (s.more [l]).val l = 0
        · rw [if_pos h0]
          refine ⟨hw, hf, fun l' e => ?_⟩
          rw [val_assign hF hlt'] at e
          split at e
          · next e2 => rw [e2]; exact hMl
          · split at e
            · cases e
            · exact hv l' e
        · rw [if_neg h0]
          exact ⟨hw, hf, hv⟩
    exact Taken.units hM ds (s.add [l]) (cs ++ [[l]]) hT key.1 key.2.1 key.2.2 (fun d' h' => hd d' (by simp [h']))

theorem mem_insS (x y : Nat) : ∀ l : List Nat, y ∈ insS x l ↔ y = x ∨ y ∈ l
  | [] => by simp [insS]
  | z :: l => by
    rw [insS]
    split
    · simp
    · split
      · next e => subst e; simp
      · simp only [List.mem_cons, mem_insS x y l]
        constructor
        · rintro (h | h | h) <;> simp [h]
        · rintro (h | h | h) <;> simp [h]
theorem insS_sorted (x : Nat) : ∀ l : List Nat, l.Pairwise (· < ·) → (insS x l).Pairwise (· < ·)
  | [], _ => by simp [insS]
  | z :: l, h => by
    rw [insS]
    have hz := List.pairwise_cons.1 h
    split
    · next e =>
      refine List.pairwise_cons.2 ⟨fun y hy => ?_, h⟩
      rcases List.mem_cons.1 hy with rfl | hy
      · exact e
      · exact Nat.lt_trans e (hz.1 y hy)
    · split
      · exact h
      · refine List.pairwise_cons.2 ⟨fun y hy => ?_, insS_sorted x l hz.2⟩
        rcases (mem_insS x y l).1 hy with rfl | hy
        · omega
        · exact hz.1 y hy
theorem litsN_go : ∀ (c : List Int) (acc : List Nat), acc.Pairwise (· < ·) → (c.foldl (fun acc x => insS (litN x) acc) acc).Pairwise (· < ·) ∧ ∀ y, y ∈ c.foldl (fun acc x => insS (litN x) acc) acc ↔ (∃ x ∈ c, litN x = y) ∨ y ∈ acc
  | [], acc, h => ⟨h, by simp⟩
  | x :: c, acc, h => by
    obtain ⟨h1, h2⟩ := litsN_go c (insS (litN x) acc) (insS_sorted _ _ h)
    refine ⟨h1, fun y => (h2 y).trans ?_⟩
    rw [mem_insS]
    constructor
    · rintro (⟨z, hz, e⟩ | h | h)
      · exact Or.inl ⟨z, by simp [hz], e⟩
      · exact Or.inl ⟨x, by simp, h.symm⟩
      · exact Or.inr h
    · rintro (⟨z, hz, e⟩ | h)
      · rcases List.mem_cons.1 hz with rfl | hz
        · exact Or.inr (Or.inl e.symm)
        · exact Or.inl ⟨z, hz, e⟩
      · exact Or.inr (Or.inr h)
theorem mem_litsN (c : List Int) (y : Nat) : y ∈ litsN c ↔ ∃ x ∈ c, litN x = y := by
  have := (litsN_go c [] List.Pairwise.nil).2 y
  simpa [litsN] using this
theorem litsN_sorted (c : List Int) : (litsN c).Pairwise (· < ·) := (litsN_go c [] List.Pairwise.nil).1
theorem litsN_nodup (c : List Int) : (litsN c).Nodup := (litsN_sorted c).imp (fun h => Nat.ne_of_lt h)
theorem opp_litN {x : Int} (h : x ≠ 0) : opp (litN x) = litN (-x) := by
  unfold opp litN
  rw [Int.natAbs_neg]
  split <;> split <;> split <;> omega
theorem litN_lt {x : Int} {n : Nat} (h : x.natAbs ≤ n) : litN x < 2 * n + 2 := by unfold litN; split <;> omega
theorem litsN_lt {c : List Int} {n : Nat} (h : ∀ x ∈ c, x.natAbs ≤ n) : ∀ l ∈ litsN c, l < 2 * n + 2 := fun l hl => by
  obtain ⟨x, hx, rfl⟩ := (mem_litsN c l).1 hl
  exact litN_lt (h x hx)

/-- Solve says no, if two opposites are forced. -/
theorem solve_no {n : Nat} {cs : List (List Int)} (hc : ∀ c ∈ cs, ∀ x ∈ c, x.natAbs ≤ n) {l : Nat} (h1 : Forced (cs.map litsN) l) (h2 : Forced (cs.map litsN) (opp l)) : solveN n cs = some none := by
  have hd : ∀ d ∈ cs.map litsN, d.Nodup ∧ ∀ l ∈ d, l < 2 * n + 2 := fun d hd => by
    obtain ⟨c, hcc, rfl⟩ := List.mem_map.1 hd
    exact ⟨litsN_nodup c, litsN_lt (hc c hcc)⟩
  have T := Taken.all (cs.map litsN) (Sv.new n) [] (Taken.new n) hd
  obtain ⟨s', e⟩ := T.no (by simpa using hd) h1 h2 n
  unfold solveN
  rw [List.foldl_map] at e
  rw [e]

/-- Solve of units that go together. -/
theorem solve_units {n : Nat} {cs : List (List Int)} (hc : ∀ c ∈ cs, ∃ x, c = [x] ∧ x ≠ 0 ∧ x.natAbs ≤ n) (hM : ∀ x, [x] ∈ cs → [-x] ∉ cs) :
    ∃ vs, solveN n cs = some (some vs) ∧ vs.length = n ∧ ∀ v : Nat, ([(v + 1 : Int)] ∈ cs → vs[v]? = some true) ∧ ([-(v + 1 : Int)] ∈ cs → vs[v]? = some false) := by
  have h1 : ∀ x : Int, litsN [x] = [litN x] := fun x => by simp [litsN, insS]
  have hd : ∀ d ∈ cs.map litsN, d.Nodup ∧ ∀ l ∈ d, l < 2 * n + 2 := fun d hd => by
    obtain ⟨c, hcc, rfl⟩ := List.mem_map.1 hd
    obtain ⟨x, rfl, _, hx⟩ := hc c hcc
    exact ⟨litsN_nodup _, litsN_lt (by simpa using hx)⟩
  have T := Taken.all (cs.map litsN) (Sv.new n) [] (Taken.new n) hd
  have U := Taken.units (M := fun l => ∃ x, [x] ∈ cs ∧ litN x = l) (n := n) (fun l ⟨x, h2, h3⟩ ⟨y, h4, h5⟩ => by
    obtain ⟨_, e, hx0, _⟩ := hc _ h2
    cases e
    obtain ⟨_, e, hy0, _⟩ := hc _ h4
    cases e
    rw [← h3, opp_litN hx0] at h5
    have : y = -x := by unfold litN at h5; split at h5 <;> split at h5 <;> omega
    exact hM x h2 (this ▸ h4)) (cs.map litsN) (Sv.new n) [] (Taken.new n) (new_wat n) rfl (fun l e => by rw [new_val] at e; cases e) (fun d hd => by
    obtain ⟨c, hcc, rfl⟩ := List.mem_map.1 hd
    obtain ⟨x, rfl, _, hx⟩ := hc c hcc
    exact ⟨litN x, h1 x, ⟨x, hcc, rfl⟩, litN_lt hx⟩)
  obtain ⟨s', e1, e2, e3, e4⟩ := run_yes (n + 2) _ (by rw [T.hp]; simp) T.fo U.1 (by rw [T.hp, T.nn]; intro v hv; simp at hv; omega) U.2
  have hn : s'.n = n := e3.trans T.nn
  have yes : ∀ x, [x] ∈ cs → s'.val (litN x) = 1 := fun x hx => e4 _ (T.unit U.2 _ (by
    rw [List.nil_append, ← h1 x]
    exact List.mem_map_of_mem hx))
  refine ⟨_, by unfold solveN; rw [List.foldl_map] at e1; rw [e1], by simp, fun v => ⟨fun hx => ?_, fun hx => ?_⟩⟩
  · obtain ⟨_, e, _, hxn⟩ := hc _ hx
    cases e
    have := yes _ hx
    have e5 : litN (v + 1 : Int) = 2 * (v + 1) := by unfold litN; split <;> omega
    rw [e5] at this
    have hvn : v < n := by omega
    simp [hvn, this]
  · obtain ⟨_, e, _, hxn⟩ := hc _ hx
    cases e
    have := yes _ hx
    have e5 : litN (-(v + 1 : Int)) = opp (2 * (v + 1)) := by unfold litN opp; split <;> split <;> omega
    have hvn : v < n := by omega
    have h6 := e2.sgn (2 * (v + 1)) (by omega)
    rw [← e5, this] at h6
    have h7 : s'.val (2 * (v + 1)) = -1 := by omega
    simp [hvn, h7]

end Go.Proofs.YtlehlgipbhfioaaGreat
