/- What is read: its numbers are numbers of the list; its text is not too long; law05's Same and the document's Show of it. TermReads' walk. -/
import Derived.Test.YtinphcnknionmaaP32
import Derived.Test.YtinphcnknionmaaP38
import Derived.Test.YtinphcnknionmaaP40
import Derived.Test.YtinphcnknionmaaP47
namespace Go.Proofs.Ytinphcnknionmaa
open Go.RowKit

theorem lTerm_lt {s : ByteArray} {i : Nat} {l : List Tm} : l.length ≤ (lTerm s i l).list.length ∧ ∀ n k l', lTerm s i l = .ok n k l' → n < l'.length := by
  have key : ∀ t : ByteArray, l.length ≤ (pRead t l).2.2.2.length ∧ ((pRead t l).2.1 = 0 → (pRead t l).1 < (pRead t l).2.2.2.length) := by
    intro t
    unfold pRead
    split
    · exact ⟨Nat.le_refl _, fun h => by cases h⟩
    · unfold pWhole
      have hb := bl_le (s := t) (i := 0) (by omega)
      have hg := ((p_grows t (2 * t.size + 1)).1 0 (bl t 0) l hb).1
      split
      · next c q l' hx =>
        refine ⟨Nat.le_refl _, fun h => ?_⟩
        have := ((p_bad t (2 * t.size + 1)).1 0 (bl t 0) l c q l' hb (by omega) hx).1
        have h : c = 0 := h
        omega
      · next n k l' hx =>
        rw [hx] at hg
        have h2 := ((p_count t (2 * t.size + 1)).1 0 (bl t 0) l n k l' hb hx).2
        split
        · exact ⟨Nat.le_refl _, fun h => by cases h⟩
        · split
          · exact ⟨Nat.le_refl _, fun h => by cases h⟩
          · exact ⟨hg.length_le, fun _ => h2⟩
  obtain ⟨h1, h2⟩ := key (s.extract i (tEnd s i))
  unfold lTerm
  split
  · next h0 =>
    refine ⟨h1, fun n k l' h => ?_⟩
    injection h with e1 e2 e3
    rw [← e1, ← e3]
    exact h2 h0
  · exact ⟨h1, fun n k l' h => by cases h⟩

theorem InF.mono {l l' : List Tm} {f : Fo} (h : InF l f) (hl : l.length ≤ l'.length) : InF l' f := fun p hp => by
  obtain ⟨h1, h2⟩ := h p hp
  have a1 := inB_true h1
  have a2 := inB_true h2
  exact ⟨decide_eq_true (by omega), decide_eq_true (by omega)⟩
theorem InF.eq {l : List Tm} {a b : Nat} (ha : a < l.length) (hb : b < l.length) : InF l (.eq (a : Int) (b : Int)) := by
  intro p hp
  simp [Fo.eq, eqF] at hp
  subst hp
  exact ⟨decide_eq_true (by simp; omega), decide_eq_true (by simp; omega)⟩
theorem InF.neg {l : List Tm} {f : Fo} (h : InF l f) : InF l (.neg f) := by
  intro p hp
  simp [Fo.neg, eqF] at hp
  exact h p hp
theorem InF.two {l : List Tm} {f g : Fo} {o : Int} (ho : o = 2 ∨ o = 3 ∨ o = 4) (h : InF l f) (k : InF l g) : InF l (.two o f g) := by
  have h0 : ¬ o = 0 := by rcases ho with rfl | rfl | rfl <;> decide
  intro p hp
  simp [Fo.two, eqF, h0] at hp
  rcases hp with hp | hp
  · exact h p hp
  · exact k p hp

def InR (n : Nat) : Res Fo → Prop
  | .ok a _ l => InF l a ∧ n ≤ l.length
  | .bad _ _ l => n ≤ l.length
theorem InR.mono {n m : Nat} {R : Res Fo} (h : InR n R) (hm : m ≤ n) : InR m R := by
  cases R with
  | ok a k l => exact ⟨h.1, Nat.le_trans hm h.2⟩
  | bad c q l => exact Nat.le_trans hm h
theorem InR.bind {n : Nat} {R : Res Fo} (h : InR n R) {g : Fo → Nat → List Tm → Res Fo} (hg : ∀ a k l, InF l a → n ≤ l.length → InR n (g a k l)) : InR n (R.bind g) := by
  cases R with
  | ok a k l => exact hg a k l h.1 h.2
  | bad c q l => exact h

theorem gEqu_inf (s : ByteArray) (i : Nat) (l : List Tm) : InR l.length (gEqu s i l) := by
  unfold gEqu
  obtain ⟨m1, n1⟩ := lTerm_lt (s := s) (i := i) (l := l)
  cases h1 : lTerm s i l with
  | bad e p l1 => rw [h1] at m1; exact m1
  | ok a k l1 =>
    rw [h1] at m1
    have m1 : l.length ≤ l1.length := m1
    have na := n1 a k l1 h1
    simp only [Res.bind]
    generalize (if byt s k = 33 then k + 1 else k) = q
    split
    · obtain ⟨m2, n2⟩ := lTerm_lt (s := s) (i := bl s (q + 1)) (l := l1)
      cases h2 : lTerm s (bl s (q + 1)) l1 with
      | bad e p l2 =>
        rw [h2] at m2
        exact Nat.le_trans m1 m2
      | ok b k2 l2 =>
        rw [h2] at m2
        have m2 : l1.length ≤ l2.length := m2
        have nb := n2 b k2 l2 h2
        refine ⟨?_, Nat.le_trans m1 m2⟩
        split
        · exact (InF.eq (by omega) nb).neg
        · exact InF.eq (by omega) nb
    · exact m1

theorem gp_inf (s : ByteArray) : ∀ f : Nat, (∀ lev d i l, InR l.length (gp s f lev d i l)) ∧ (∀ lev d i l a n, InF l a → n ≤ l.length → InR n (gl s f lev d i l a))
  | 0 => ⟨fun _ _ _ _ => (by rw [gp]; exact Nat.le_refl _), fun _ _ _ _ _ _ _ h => (by rw [gl]; exact h)⟩
  | f + 1 => by
    obtain ⟨IP, IL⟩ := gp_inf s f
    constructor
    · intro lev d i l
      rw [gp]
      split
      · refine (IP 1 d i l).bind fun a k l1 ha hl => ?_
        split
        · split
          · refine ((IP 0 d (bl s (k + 1 + 1)) l1).bind fun b k2 l2 hb hl2 => ?_).mono hl
            exact ⟨.two (Or.inr (Or.inr rfl)) (ha.mono hl2) hb, hl2⟩
          · exact hl
        · exact ⟨ha, hl⟩
      · split
        · split
          · split
            · exact Nat.le_refl _
            · exact (IP 3 (d + 1) (bl s (i + 1)) l).bind fun a k l1 ha hl => ⟨ha.neg, hl⟩
          · split
            · split
              · exact Nat.le_refl _
              · refine (IP 0 (d + 1) (bl s (i + 1)) l).bind fun a k l1 ha hl => ?_
                split
                · exact ⟨ha, hl⟩
                · exact hl
            · exact gEqu_inf s i l
        · exact (IP (lev + 1) d i l).bind fun a k l1 ha hl => IL lev d k l1 a _ ha hl
    · intro lev d i l a n ha hn
      rw [gl]
      split
      · refine ((IP (lev + 1) d (bl s (i + 1)) l).bind fun b k2 l2 hb hl2 => ?_).mono hn
        exact IL lev d k2 l2 _ _ (.two (opn_or lev) (ha.mono hl2) hb) hl2
      · exact ⟨ha, hn⟩

def OkR {α : Type} : Res α → Prop
  | .ok _ _ _ => True
  | .bad c _ _ => c ≠ 0
theorem OkR.bind {α β : Type} {R : Res α} (h : OkR R) {g : α → Nat → List Tm → Res β} (hg : ∀ a k l, R = .ok a k l → OkR (g a k l)) : OkR (R.bind g) := by
  cases R with
  | ok a k l => exact hg a k l rfl
  | bad c q l => exact h
theorem lTerm_okr (s : ByteArray) (i : Nat) (l : List Tm) : OkR (lTerm s i l) := by
  unfold lTerm
  split
  · trivial
  · next h => exact h
theorem gp_okr (s : ByteArray) : ∀ f : Nat, (∀ lev d i l, i ≤ s.size → lev ≤ 3 → 6 * (s.size - i) + 5 ≤ f + lev → OkR (gp s f lev d i l)) ∧ (∀ lev d i l a, i ≤ s.size → lev = 1 ∨ lev = 2 → 6 * (s.size - i) + 5 ≤ f → OkR (gl s f lev d i l a))
  | 0 => ⟨fun _ _ _ _ _ _ h => absurd h (by omega), fun _ _ _ _ _ _ _ h => absurd h (by omega)⟩
  | f + 1 => by
    obtain ⟨IP, IL⟩ := gp_okr s f
    obtain ⟨GP, GL⟩ := gp_ok s f
    constructor
    · intro lev d i l hi h3 hf
      rw [gp]
      split
      · refine (IP 1 d i l hi (by omega) (by omega)).bind fun a k l1 e => ?_
        have hk := GP _ _ _ _ _ _ _ hi e
        split
        · split
          · next hs =>
            have hk2 := (of_decide_eq_true hs).1
            have hb := bl_le (s := s) (i := k + 1 + 1) (by omega)
            have hg := bl_ge s (k + 1 + 1)
            exact (IP 0 d (bl s (k + 1 + 1)) l1 hb (by omega) (by omega)).bind fun b k2 l2 _ => trivial
          · show (2 : Nat) ≠ 0
            decide
        · trivial
      · split
        · split
          · next h33 =>
            have hi2 := byt_in h33 (by omega)
            have hb := bl_le (s := s) (i := i + 1) (by omega)
            have hg := bl_ge s (i + 1)
            split
            · show (4 : Nat) ≠ 0
              decide
            · exact (IP 3 (d + 1) (bl s (i + 1)) l hb (by omega) (by omega)).bind fun a k l1 _ => trivial
          · split
            · next h40 =>
              have hi2 := byt_in h40 (by omega)
              have hb := bl_le (s := s) (i := i + 1) (by omega)
              have hg := bl_ge s (i + 1)
              split
              · show (4 : Nat) ≠ 0
                decide
              · refine (IP 0 (d + 1) (bl s (i + 1)) l hb (by omega) (by omega)).bind fun a k l1 _ => ?_
                split
                · trivial
                · show (2 : Nat) ≠ 0
                  decide
            · unfold gEqu
              refine (lTerm_okr s i l).bind fun a k l1 _ => ?_
              generalize (if byt s k = 33 then k + 1 else k) = q
              split
              · exact (lTerm_okr s _ l1).bind fun b k2 l2 _ => trivial
              · show (2 : Nat) ≠ 0
                decide
        · refine (IP (lev + 1) d i l hi (by omega) (by omega)).bind fun a k l1 e => ?_
          have hk := GP _ _ _ _ _ _ _ hi e
          exact IL lev d k l1 a hk.2 (by omega) (by omega)
    · intro lev d i l a hi h3 hf
      rw [gl]
      split
      · next hb =>
        have hi2 := byt_in hb (by unfold sgn; split <;> omega)
        have hb := bl_le (s := s) (i := i + 1) (by omega)
        have hg := bl_ge s (i + 1)
        refine (IP (lev + 1) d (bl s (i + 1)) l hb (by omega) (by omega)).bind fun b k2 l2 e => ?_
        have hk := GP _ _ _ _ _ _ _ hb e
        exact IL lev d k2 l2 _ hk.2 h3 (by omega)
      · trivial

theorem gParse_inf (s : ByteArray) (l : List Tm) (h : (gParse s l).2.1 = 0) : InF (gParse s l).2.2.2 (gParse s l).1 := by
  unfold gParse at h ⊢
  split
  · next hs => rw [if_pos hs] at h; cases h
  · next hs =>
    rw [if_neg hs] at h
    unfold gWhole at h ⊢
    have hb := bl_le (s := s) (i := 0) (by omega)
    have n := (gp_inf s (6 * s.size + 5)).1 0 0 (bl s 0) l
    cases h1 : gp s (6 * s.size + 5) 0 0 (bl s 0) l with
    | bad c q l' =>
      have n2 := (gp_okr s (6 * s.size + 5)).1 0 0 (bl s 0) l hb (by omega) (by omega)
      rw [h1] at h n2
      exact absurd h n2
    | ok f k l' =>
      rw [h1] at n h
      simp only at h ⊢
      split
      · next hk => rw [if_pos hk] at h; cases h
      · exact n.1

/-- A text's length. -/
theorem shwB_len {l : List Tm} (hok : ∀ t ∈ l, t.ok) (x : Int) : (shwB l x).data.toList.length ≤ 14648437500 := by
  unfold shwB
  split
  · have := shw_len hok 13 x.toNat
    simpa using this
  · simp
theorem shF_len' {l : List Tm} (M C : Nat) (hM : ∀ x, (shwB l x).data.toList.length ≤ M) (hC : 2 * M + 4 ≤ C) {f : Fo} (h : WfF f) : ∀ g : List UInt8, g.length ≤ 2 → (shF l g f).length ≤ szF f * C := by
  induction h with
  | eq x y =>
    intro g hg
    rw [shF_eq]
    have h1 := hM x
    have h2 := hM y
    have h3 : szF (.mk 0 x y []) = 1 := szF_eq x y
    rw [h3, Nat.one_mul]
    simp only [List.length_append]
    omega
  | neg f hf ih =>
    intro g hg
    have h3 : szF (.mk 1 0 0 [f]) = szF f + 2 := szF_neg f
    rw [h3, Nat.add_mul]
    generalize szF f * C = X at *
    have h4 : shF l g (.mk 1 0 0 [f]) = if f.op = 0 then shF l [33, 61] f else 33 :: shF l [61] f := by rw [shF]; simp
    rw [h4]
    split
    · have h5 := ih [33, 61] (by simp)
      omega
    · have h5 := ih [61] (by simp)
      simp only [List.length_cons]
      omega
  | two o f g ho hf hg ih1 ih2 =>
    intro gg hgg
    have h3 : szF (.mk o 0 0 [f, g]) = szF f + szF g + 3 := szF_two o ho f g
    have a1 := ih1 [61] (by simp)
    have a2 := ih2 [61] (by simp)
    have h5 : shF l gg (.mk o 0 0 [f, g]) = 40 :: (shF l [61] f ++ opS o ++ shF l [61] g ++ [41]) := by rcases ho with rfl | rfl | rfl <;> simp [shF]
    have h4 : (opS o).length ≤ 2 := by unfold opS; split <;> (try split) <;> simp
    rw [h5, h3, Nat.add_mul, Nat.add_mul]
    generalize szF f * C = X at *
    generalize szF g * C = Y at *
    simp only [List.length_cons, List.length_append, List.length_nil]
    omega
theorem shF_len {l : List Tm} (hok : ∀ t ∈ l, t.ok) {f : Fo} (h : WfF f) (hn : szF f ≤ 1201) : (shF l [61] f).length ≤ 100000000000000 := by
  have h1 := shF_len' 14648437500 30000000000 (shwB_len hok) (by decide) h [61] (by simp)
  have h2 : szF f * 30000000000 ≤ 1201 * 30000000000 := Nat.mul_le_mul_right _ hn
  exact Nat.le_trans h1 (Nat.le_trans h2 (by decide))

theorem szd_wf' {f : Fo} (h : WfF f) : ∀ t : Lf, t.er = f → Szd t := by
  induction h with
  | eq x y =>
    intro t ht
    obtain ⟨_, _, _, h4⟩ := Lf.er_kids ht
    cases t
    have h4 := List.map_eq_nil_iff.1 h4
    simp only [Lf.kids] at h4
    subst h4
    exact .mk (by simp) (by simp)
  | neg g hg ih =>
    intro t ht
    obtain ⟨_, _, _, h4⟩ := Lf.er_kids ht
    obtain ⟨k, hk, hke⟩ := map_one h4
    cases t
    simp only [Lf.kids] at hk
    subst hk
    exact .mk (by simp) (fun u hu => by obtain rfl := List.mem_singleton.1 hu; exact ih _ hke)
  | two o g k ho hg hk ih1 ih2 =>
    intro t ht
    obtain ⟨_, _, _, h4⟩ := Lf.er_kids ht
    obtain ⟨a, b, hab, ha, hb⟩ := map_two h4
    cases t
    simp only [Lf.kids] at hab
    subst hab
    refine .mk (by simp) (fun u hu => ?_)
    simp at hu
    rcases hu with rfl | rfl
    · exact ih1 _ ha
    · exact ih2 _ hb
theorem szd_wf (t : Lf) (h : WfF t.er) : Szd t := szd_wf' h t rfl
theorem LayA.layC5 {A : Nat → Prop} {W : World} {t : Lf} (h : LayA A W t) : LayC W t := by
  induction h with
  | mk _ hc hk _ ih =>
    obtain ⟨c, fz, h1, h2, h3, h4, h5⟩ := hc
    exact .mk (by simp only [World.cell?, h1]; exact h2) (by simp only [World.cell?, h1]; exact h3) (by simp only [World.cell?, h1]; exact h4) (by simp only [World.cell?, h1]; exact h5) hk ih

/-- law05's Same of the program's Form and the document's. -/
theorem same5w {A : Nat → Prop} (w : World) (v z : Value) (f : Fo) (hv : FIs w v f) (hz : RVal A w z f) (hw : WfF f) :
    Calls Try.prog 60 #[v, z] w fun e w' => e = .returned (.bool true) ∧ Below w.heap.size w w' := by
  obtain ⟨op, x, y, kv, kids, rfl, h1, h2, h3⟩ := hv
  obtain ⟨op', x', y', kv', kids', rfl, k1, k2, k3⟩ := hz
  have e1 : (Lf.mk 0 0 op x y kv kids).er = f := by rw [Lf.er, h3]
  have e2 : (Lf.mk 0 0 op' x' y' kv' kids').er = f := by rw [Lf.er, k3]
  exact smt (.mk 0 0 op x y kv kids) (.mk 0 0 op' x' y' kv' kids') w (e1.trans e2.symm) (szd_wf _ (by rw [e1]; exact hw)) h1 (fun k hkk => LayA.layC5 (h2 k hkk)) k1 (fun k hkk => (k2 k hkk).layC)

/-- The document's Show of a Form. -/
theorem rshow5 {A : Nat → Prop} (w : World) (base : Nat) (av : Value) (l : List Tm) (vs : List Value) (h : ShL w base av l vs) (z : Value) (f : Fo) (hz : RVal A w z f) (hw : WfF f) (hi : InF l f) (hn : szF f ≤ 1201) :
    Calls Try.prog 63 #[av, z] w fun e w' => e = .returned (.string (ofB (shF l [61] f))) ∧ Kept0 w w' := by
  obtain ⟨op, x, y, kv, kids, rfl, h1, h2, rfl⟩ := hz
  have e1 : (Lf.mk 0 0 op x y kv kids).er = .mk op x y (kids.map Lf.er) := by rw [Lf.er]
  have hL := shF_len h.oks hw hn
  have R := rsh (.mk 0 0 op x y kv kids) w base av l vs h h1 (fun k hkk => (h2 k hkk).layC) (by rw [e1]; exact hw) (by rw [e1]; exact hi) (by rw [e1]; omega)
  rw [e1] at R
  exact R

end Go.Proofs.Ytinphcnknionmaa

namespace Go.Proofs.Ytinphcnknionmaa
open Go.RowKit Go.Maps

/-- Blocks of other types are none of a bank's. -/
theorem Bk.apart {w : World} {base p : Nat} {ev : Value} {nb fb : Nat} {l : List Tm} (h : Bk w base p ev nb fb l) {k : Nat} {c : Array Value} {T : TypeId} {fz : Nat × Nat} (hk : w.heap[k]? = some (.cells c T fz)) (h1 : T ≠ 105) (h2 : T ≠ 124) : ¬ BFoot p ev nb fb k := by
  rintro (e | e | e | e)
  · subst e
    obtain ⟨c2, h3, _⟩ := h.bank
    rw [hk] at h3
    injection h3 with h3
    injection h3 with _ h4
    exact h1 h4
  · subst e
    obtain ⟨D, ⟨es, ck, n1, _⟩, _⟩ := h.nums
    rw [hk] at n1
    cases n1
  · subst e
    obtain ⟨D, ⟨es, ck, n1, _⟩, _⟩ := h.fsts
    rw [hk] at n1
    cases n1
  · rcases h.rows.2 with ⟨e2, _⟩ | ⟨b, cap, cur, e2, _, h3, _⟩
    · rw [e2] at e; simp [Value.ownBlock] at e
    · rw [e2] at e
      simp [Value.ownBlock] at e
      subst e
      rw [hk] at h3
      injection h3 with h3
      injection h3 with _ h4
      exact h2 h4

theorem RBk.kept {w w' : World} {base q : Nat} {av : Value} {l : List Tm} {vs : List Value} {S : Nat → Prop} (h : RBk w base q av l vs) (K : Kept S w w') (hS : ∀ k c T fz, w.heap[k]? = some (.cells c T fz) → T ≠ 105 → T ≠ 124 → ¬ S k) : RBk w' base q av l vs := by
  have rowk : ∀ {e : TypeId} {sz n : Nat} {v : Value} {xs : List Value}, e ≠ 105 → e ≠ 124 → w.ownsRow base e sz v n xs → ∀ b, v.ownBlock = some b → w'.heap[b]? = w.heap[b]? := by
    intro e sz n v xs h1 h2 hr b hb
    rcases hr.2 with ⟨e2, _⟩ | ⟨b', cap, cur, e2, _, h3, _⟩
    · rw [e2] at hb; simp [Value.ownBlock] at hb
    · rw [e2] at hb
      simp [Value.ownBlock] at hb
      subst hb
      exact K.block _ (right_lt h3) (hS _ _ _ _ h3 h1 h2)
  refine ⟨h.row.of_block ?_, h.ls.blocks (rowk (by decide) (by decide) h.ls.row) (fun u hu b hb => ?_), Nat.le_trans h.bs K.size⟩
  · obtain ⟨c, h1, _⟩ := h.row
    exact K.block q (right_lt h1) (hS _ _ _ _ h1 (by decide) (by decide))
  · obtain ⟨xs, hx⟩ := h.ls.mem hu
    exact rowk (by decide) (by decide) hx b hb

/-- Two banks and the document's. -/
structure Tri (w W : World) (p : Nat) (ev : Value) (nb fb : Nat) (l : List Tm) (p' : Nat) (ev' : Value) (nb' fb' : Nat) (lo : List Tm) (q : Nat) (av : Value) (vs : List Value) : Prop where
  b : Bk W w.heap.size p ev nb fb l
  o : Bk W w.heap.size p' ev' nb' fb' lo
  r : RBk W w.heap.size q av l vs
  dis : ∀ k, BFoot p ev nb fb k → ¬ BFoot p' ev' nb' fb' k
  kl : Kp l
  ko : Kp lo
  bel : Below w.heap.size w W
  rq : w.heap.size ≤ q

theorem Bk.foot_ge {w : World} {base p : Nat} {ev : Value} {nb fb : Nat} {l : List Tm} (h : Bk w base p ev nb fb l) {k : Nat} (hk : BFoot p ev nb fb k) : base ≤ k := by
  rcases hk with e | e | e | e
  · rw [e]; exact h.bp
  · rw [e]; exact h.bn
  · rw [e]; exact h.bf
  · exact (h.rows.lt k e).1
theorem Bk.foot_lt {w : World} {base p : Nat} {ev : Value} {nb fb : Nat} {l : List Tm} (h : Bk w base p ev nb fb l) {k : Nat} (hk : BFoot p ev nb fb k) : k < w.heap.size := by
  have L := h.low
  rcases hk with e | e | e | e
  · rw [e]; exact L.p
  · rw [e]; exact L.n
  · rw [e]; exact L.f
  · exact L.e k e
/-- A bank that another's change leaves alone. -/
theorem Bk.stays {w w' : World} {base p : Nat} {ev : Value} {nb fb : Nat} {l : List Tm} {S : Nat → Prop} (h : Bk w base p ev nb fb l) (K : Kept S w w') (hS : ∀ k, BFoot p ev nb fb k → ¬ S k) : Bk w' base p ev nb fb l :=
  h.blocks (K.block p h.low.p (hS p (Or.inl rfl))) (K.block nb h.low.n (hS nb (Or.inr (Or.inl rfl)))) (K.block fb h.low.f (hS fb (Or.inr (Or.inr (Or.inl rfl))))) (fun k e => K.block k (h.low.e k e) (hS k (Or.inr (Or.inr (Or.inr e)))))

theorem foot_new {p nb fb k : Nat} {ev ev2 : Value} {n : Nat} (h : BFoot p ev2 nb fb k) (hr : ev2.ownBlock = ev.ownBlock ∨ ∀ k, ev2.ownBlock = some k → n ≤ k) : BFoot p ev nb fb k ∨ n ≤ k := by
  rcases h with e | e | e | e
  · exact Or.inl (Or.inl e)
  · exact Or.inl (Or.inr (Or.inl e))
  · exact Or.inl (Or.inr (Or.inr (Or.inl e)))
  · rcases hr with e2 | e2
    · exact Or.inl (Or.inr (Or.inr (Or.inr (e2 ▸ e))))
    · exact Or.inr (e2 k e)

theorem Tri.readO {w W : World} {p : Nat} {ev : Value} {nb fb : Nat} {l : List Tm} {p' : Nat} {ev' : Value} {nb' fb' : Nat} {lo : List Tm} {q : Nat} {av : Value} {vs : List Value} (h : Tri w W p ev nb fb l p' ev' nb' fb' lo q av vs) (s : ByteArray) :
    Calls Try.prog 16 #[.pointer (some ⟨p', 0, none⟩), .string s] W fun e W' => e = .returned (.tuple #[.int .i64 ((pRead s lo).1 : Int), .int .i64 ((pRead s lo).2.1 : Int), .int .i64 ((pRead s lo).2.2.1 : Int)]) ∧ ∃ ev2, Tri w W' p ev nb fb l p' ev2 nb' fb' (pRead s lo).2.2.2 q av vs := by
  refine (tRead_in W w.heap.size p' ev' nb' fb' lo h.o h.ko.len h.bel.size s).mono ?_
  rintro e W' ⟨he, ev2, B2, K2, R2⟩
  refine ⟨he, ev2, h.b.stays K2 h.dis, B2, h.r.kept K2 (fun k c T fz hk h1 h2 => h.o.apart hk h1 h2), fun k hk hk2 => ?_, h.kl, h.ko.read s, h.bel.trans (Kept.below K2 h.bel.size (fun k e => h.o.foot_ge e)), h.rq⟩
  rcases foot_new hk2 R2 with e | e
  · exact h.dis k hk e
  · have := h.b.foot_lt hk; omega
theorem Tri.readB {w W : World} {p : Nat} {ev : Value} {nb fb : Nat} {l : List Tm} {p' : Nat} {ev' : Value} {nb' fb' : Nat} {lo : List Tm} {q : Nat} {av : Value} {vs : List Value} (h : Tri w W p ev nb fb l p' ev' nb' fb' lo q av vs) (s : ByteArray) :
    Calls Try.prog 16 #[.pointer (some ⟨p, 0, none⟩), .string s] W fun e W' => e = .returned (.tuple #[.int .i64 ((pRead s l).1 : Int), .int .i64 ((pRead s l).2.1 : Int), .int .i64 ((pRead s l).2.2.1 : Int)]) ∧ ∃ ev2, (Calls Try.prog 17 #[.pointer (some ⟨q, 0, none⟩), .string s] W' fun e W2 => e = .returned (.tuple #[.int .i64 ((pRead s l).1 : Int), .int .i64 ((pRead s l).2.1 : Int), .int .i64 ((pRead s l).2.2.1 : Int)]) ∧ ∃ av2 vs2, Tri w W2 p ev2 nb fb (pRead s l).2.2.2 p' ev' nb' fb' lo q av2 vs2) ∧ Below w.heap.size w W' := by
  refine (tRead_in W w.heap.size p ev nb fb l h.b h.kl.len h.bel.size s).mono ?_
  rintro e W' ⟨he, ev2, B2, K2, R2⟩
  have O2 := h.o.stays K2 (fun k hk e => h.dis k e hk)
  have RR := h.r.kept K2 (fun k c T fz hk h1 h2 => h.b.apart hk h1 h2)
  have bel2 := h.bel.trans (Kept.below K2 h.bel.size (fun k e => h.b.foot_ge e))
  have dis2 : ∀ k, BFoot p ev2 nb fb k → ¬ BFoot p' ev' nb' fb' k := fun k hk hk2 => by
    rcases foot_new hk R2 with e | e
    · exact h.dis k e hk2
    · have := h.o.foot_lt hk2; omega
  refine ⟨he, ev2, ?_, bel2⟩
  refine (rRead_in W' w.heap.size q av l vs RR h.kl.good h.kl.len s).mono ?_
  rintro e W2 ⟨he2, ⟨av2, vs2, R3⟩, K3⟩
  obtain ⟨cq, hq, _⟩ := RR.row
  have hqb := B2.apart hq (by decide) (by decide)
  have hqo := O2.apart hq (by decide) (by decide)
  have hql : w.heap.size ≤ q := h.rq
  exact ⟨he2, av2, vs2, ⟨B2.stays K3 (fun k hk e => hqb (e ▸ hk)), O2.stays K3 (fun k hk e => hqo (e ▸ hk)), R3, dis2, h.kl.read s, h.ko, bel2.trans (Kept.below K3 bel2.size (fun k e => e ▸ hql)), h.rq⟩⟩

theorem Tri.kept0 {w W W' : World} {p : Nat} {ev : Value} {nb fb : Nat} {l : List Tm} {p' : Nat} {ev' : Value} {nb' fb' : Nat} {lo : List Tm} {q : Nat} {av : Value} {vs : List Value} (h : Tri w W p ev nb fb l p' ev' nb' fb' lo q av vs) (K : Kept0 W W') : Tri w W' p ev nb fb l p' ev' nb' fb' lo q av vs :=
  ⟨h.b.kept0 K, h.o.kept0 K, h.r.kept K (fun _ _ _ _ _ _ _ e => e), h.dis, h.kl, h.ko, h.bel.trans (Kept.below K h.bel.size (fun _ e => e.elim)), h.rq⟩
theorem Tri.same {w W : World} {p : Nat} {ev : Value} {nb fb : Nat} {l : List Tm} {p' : Nat} {ev' : Value} {nb' fb' : Nat} {lo : List Tm} {q : Nat} {av : Value} {vs : List Value} (h : Tri w W p ev nb fb l p' ev' nb' fb' lo q av vs) :
    Calls Try.prog 19 #[.pointer (some ⟨p, 0, none⟩), av] W fun e W' => e = .returned (.bool true) ∧ Tri w W' p ev nb fb l p' ev' nb' fb' lo q av vs :=
  (same_law W w.heap.size p ev nb fb l h.b h.kl.hs w.heap.size av vs h.r.ls).mono fun _ _ hP => ⟨hP.1, h.kept0 hP.2⟩
theorem Tri.qcell {w W : World} {p : Nat} {ev : Value} {nb fb : Nat} {l : List Tm} {p' : Nat} {ev' : Value} {nb' fb' : Nat} {lo : List Tm} {q : Nat} {av : Value} {vs : List Value} (h : Tri w W p ev nb fb l p' ev' nb' fb' lo q av vs) : W.cell? ⟨q, 0, none⟩ = some av := h.r.row.cell (by omega)

/-- Texts in memory. -/
def Texts (w : World) (a : Option Addr) (ss : List ByteArray) : Prop := ss = [] ∨ ∃ b off, a = some ⟨b, off, none⟩ ∧ b < w.heap.size ∧ ∀ k s, ss[k]? = some s → w.cell? ⟨b, off + k, none⟩ = some (.string s)

/-- At the beginning. -/
theorem Tri.start (w w1 w2 : World) (p nb fb p' nb' fb' : Nat) (H1 : Bk w1 w.heap.size p (.slice none 0 0) nb fb []) (B1 : Below w.heap.size w w1) (H2 : Bk w2 w1.heap.size p' (.slice none 0 0) nb' fb' []) (B2 : Below w1.heap.size w1 w2) :
    Tri w (w2.alloc (.cells #[.slice none 0 0] 28)) p (.slice none 0 0) nb fb [] p' (.slice none 0 0) nb' fb' [] w2.heap.size (.slice none 0 0) [] := by
  have K : Kept0 w2 (w2.alloc (.cells #[.slice none 0 0] 28)) := Kept.alloc (Kept.refl _ w2) _
  have s1 := B1.size
  have s2 := B2.size
  have H2' : Bk w2 w.heap.size p' (.slice none 0 0) nb' fb' [] := ⟨H2.bank, row_base H2.rows s1, H2.nums, H2.fsts, H2.oks, H2.nodup, H2.pn, H2.pf, H2.nf, H2.ep, H2.en, H2.ef, Nat.le_trans s1 H2.bp, Nat.le_trans s1 H2.bn, Nat.le_trans s1 H2.bf, H2.small⟩
  have b12 : Below w.heap.size w w2 := B1.trans (B2.mono s1)
  refine ⟨(H1.below H1.low B2).kept0 K, H2'.kept0 K, ⟨?_, ⟨rfl, World.ownsRow_nil _ _ _ _, by simp⟩, by simp; omega⟩, fun k hk hk2 => ?_, Kp.nil, Kp.nil, b12.trans (Kept.below K b12.size (fun _ e => e.elim)), by omega⟩
  · refine World.rowIs.congr (made_row w2 #[.slice none 0 0] 28) (fun j hj => ?_)
    have : j = 0 := by simp at hj; omega
    subst this; rfl
  · have h1 := H1.foot_lt hk
    have h2 := H2.foot_ge hk2
    omega

set_option maxHeartbeats 4000000 in
set_option maxRecDepth 100000 in
theorem reads_in (w : World) (a : Option Addr) (cp : Nat) (ss : List ByteArray) (hT : Texts w a ss) (hm : ss.length ≤ maxLen) (other : ByteArray) :
    Calls Try.prog 3 #[.slice a ss.length cp, .string other] w fun e w' => e = .returned (.bool true) ∧ Below w.heap.size w w' := by
  unfold maxLen at hm
  have NEW1 := tNew_any w
  go_enter Try.func3, Try.ntmps3
  go_wp2_with (first | (go_at_call 15; refine NEW2.mono ?_; rintro e w2 ⟨p2, nb2, fb2, rfl, H2, B2⟩; have T0 := Tri.start w w1 w2 p1 nb1 fb1 p2 nb2 fb2 H1 B1 H2 B2) | (go_at_call 15; refine NEW1.mono ?_; rintro e w1 ⟨p1, nb1, fb1, rfl, H1, B1⟩; have NEW2 := tNew_any w1))
  clear NEW1 NEW2 H1 B1 H2 B2
  generalize w2.alloc (.cells #[.slice none 0 0] 28) = w3 at T0 ⊢
  generalize w2.heap.size = q at T0 ⊢
  go_loopw [8] (fun t8 W => ∃ k : Nat, k ≤ ss.length ∧ t8 = .int .i64 (k : Int) ∧ ∃ ev l ev' lo av vs, Tri w W p1 ev nb1 fb1 l p2 ev' nb2 fb2 lo q av vs) (fun t8 _ => ss.length - (intOf t8).toNat)
  case atStart => exact ⟨0, by omega, rfl, _, _, _, _, _, _, T0⟩
  case round =>
    clear T0
    obtain ⟨k, hk, rfl, ev, l, ev', lo, av, vs, T⟩ := hrel
    by_cases hk2 : k < ss.length
    · have dk : decide ((k : Int) < (ss.length : Int)) = true := decide_eq_true (by omega)
      rcases hT with e | ⟨b, off, rfl, hb, hc⟩
      · rw [e] at hk2; simp at hk2
      · have hs : ss[k]? = some ss[k] := List.getElem?_eq_getElem hk2
        have ck := hc k _ hs
        generalize ss[k] = s at ck hs
        have c1 := (T.bel.cell (p := ⟨b, off + k, none⟩) hb).trans ck
        have RO := T.readO other
        go_wp2_with (first | (go_at_call 16; refine RB.mono ?_; rintro e w5 ⟨rfl, ev5, RR, bel5⟩; have c5 := (bel5.cell (p := ⟨b, off + k, none⟩) hb).trans ck) | (go_at_call 16; refine RO.mono ?_; rintro e w4 ⟨rfl, ev4, T4⟩; have c4 := (T4.bel.cell (p := ⟨b, off + k, none⟩) hb).trans ck; have RB := T4.readB s) | (go_at_call 17; refine RR.mono ?_; rintro e w6 ⟨rfl, av6, vs6, T6⟩) | (go_at_call 18; refine (num1_any _ _).mono ?_; rintro e w9 ⟨rfl, rfl⟩; have q6 := T6.qcell; have SM := T6.same) | (go_at_call 19; refine SM2.mono ?_; rintro e w8 ⟨rfl, T8⟩) | (go_at_call 19; refine SM.mono ?_; rintro e w7 ⟨rfl, T7⟩; have q7 := T7.qcell; have SM2 := T7.same))
        exact ⟨⟨k + 1, by omega, by simp, _, _, _, _, _, _, T8⟩, by simp [intOf]; omega⟩
    · have dk : decide ((k : Int) < (ss.length : Int)) = false := decide_eq_false (by omega)
      go_wp2_with (first | (go_at_call 20; refine (alive1_any wr).mono ?_; rintro e w9 ⟨rfl, B9⟩))
      go_ret
      exact ⟨rfl, T.bel.trans (B9.mono T.bel.size)⟩

end Go.Proofs.Ytinphcnknionmaa
