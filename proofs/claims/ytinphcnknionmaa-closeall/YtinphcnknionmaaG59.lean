/- The document's closure, plainly. The document's closure: alike. The document's closure: Closed. The document's closure: Closed's walk. law03: CloseAll, what is held in memory. -/
import Derived.Test.YtinphcnknionmaaSFindX
import Derived.Test.YtinphcnknionmaaG45
import Derived.Test.YtinphcnknionmaaG27
import Derived.Deep.RegionWith
import Derived.Test.YtinphcnknionmaaG53
import Derived.Deep.RegionHeld3
import Derived.Test.YtinphcnknionmaaG54
import Derived.Test.YtinphcnknionmaaSOrdC
import Derived.Test.YtinphcnknionmaaSLwA
namespace Go.Proofs.Ytinphcnknionmaa
open Go.RowKit Go.Maps

theorem hist_stp {n : Nat} {s : GT} (h : Uf.Hist n s.1 s.2) (a b : Nat) (ha : a < n) (hb : b < n) : Uf.Hist n (stp n s ((a : Int), (b : Int))).1 (stp n s ((a : Int), (b : Int))).2 := by
  cases hj : joins n s.1 (a : Int) (b : Int)
  · rw [stp_no hj]; exact h
  · have hne : s.1.rt a ≠ s.1.rt b := by
      simp only [joins, Bool.and_eq_true, Bool.not_eq_true', decide_eq_false_iff_not, Int.toNat_natCast] at hj
      exact hj.2
    obtain ⟨p1, p2, p3, p4, p5⟩ := (Uf.ok_hist n s.2 s.1 h).pick a b ha hb hne
    simp only [stp, joinG, joinT, if_pos hj, Int.toNat_natCast]
    exact ⟨_, p2, p1, p3, p4, p5, rfl, rfl, h⟩

/-- What the document's Closed has come to: what is the same follows. -/
structure Ju (l : List Tm) (P : List (Nat × Nat)) (s : GT) : Prop where
  hist : Uf.Hist l.length s.1 s.2
  sound : ∀ i j, i < l.length → j < l.length → s.1.lo i = s.1.lo j → Cc.Cg l P i j
theorem Ju.ok {l : List Tm} {P : List (Nat × Nat)} {s : GT} (h : Ju l P s) : Uf.Ok l.length s.1 s.2.length := Uf.ok_hist _ _ _ h.hist
theorem Ju.start (l : List Tm) (P : List (Nat × Nat)) : Ju l P (Uf.g0, []) := ⟨rfl, fun i j hi _ e => by
  have : i = j := e
  subst this
  exact .refl hi⟩

theorem stp_lo {n : Nat} {s : GT} (hok : Uf.Ok n s.1 s.2.length) {a b : Nat} (ha : a < n) (hb : b < n) : (∀ x y, x < n → y < n → s.1.lo x = s.1.lo y → (stp n s ((a : Int), (b : Int))).1.lo x = (stp n s ((a : Int), (b : Int))).1.lo y) ∧ (stp n s ((a : Int), (b : Int))).1.lo a = (stp n s ((a : Int), (b : Int))).1.lo b ∧
    (∀ x y, x < n → y < n → (stp n s ((a : Int), (b : Int))).1.lo x = (stp n s ((a : Int), (b : Int))).1.lo y → s.1.lo x = s.1.lo y ∨ ((s.1.lo x = s.1.lo a ∨ s.1.lo x = s.1.lo b) ∧ (s.1.lo y = s.1.lo a ∨ s.1.lo y = s.1.lo b))) := by
  by_cases e : s.1.rt a = s.1.rt b
  · have hj : joins n s.1 (a : Int) (b : Int) = false := by simp [joins, e]
    rw [stp_no hj]
    exact ⟨fun x y _ _ h => h, lo_of_rt e, fun x y _ _ h => .inl h⟩
  · have L := fun x hx => lo_joined hok ha hb e x hx
    have hne : s.1.lo a ≠ s.1.lo b := fun h => e (rt_of_lo hok ha hb h)
    have la := hok.lole a ha
    have lb := hok.lole b hb
    refine ⟨fun x y hx hy h => by rw [L x hx, L y hy, h], by rw [L a ha, L b hb]; simp, fun x y hx hy h => ?_⟩
    rw [L x hx, L y hy] at h
    by_cases c1 : s.1.lo x = s.1.lo a ∨ s.1.lo x = s.1.lo b
    · by_cases c2 : s.1.lo y = s.1.lo a ∨ s.1.lo y = s.1.lo b
      · exact .inr ⟨c1, c2⟩
      · rw [if_pos c1, if_neg c2] at h
        exfalso
        apply c2
        split at h
        · exact .inr h.symm
        · exact .inl h.symm
    · by_cases c2 : s.1.lo y = s.1.lo a ∨ s.1.lo y = s.1.lo b
      · rw [if_neg c1, if_pos c2] at h
        exfalso
        apply c1
        split at h
        · exact .inr h
        · exact .inl h
      · rw [if_neg c1, if_neg c2] at h
        exact .inl h

theorem Ju.step {l : List Tm} {P : List (Nat × Nat)} {s : GT} (h : Ju l P s) {a b : Nat} (ha : a < l.length) (hb : b < l.length) (hc : Cc.Cg l P a b) : Ju l P (stp l.length s ((a : Int), (b : Int))) := by
  refine ⟨hist_stp h.hist a b ha hb, fun i j hi hj e => ?_⟩
  rcases (stp_lo h.ok ha hb).2.2 i j hi hj e with e | ⟨e1, e2⟩
  · exact h.sound i j hi hj e
  · have x1 : Cc.Cg l P i a := by
      rcases e1 with e | e
      · exact h.sound i a hi ha e
      · exact (h.sound i b hi hb e).trans hc.symm
    have x2 : Cc.Cg l P j a := by
      rcases e2 with e | e
      · exact h.sound j a hj ha e
      · exact (h.sound j b hj hb e).trans hc.symm
    exact x1.trans x2.symm

/-- Have two terms the same name, and args that are the same? -/
def alikeB (n : Nat) (g : Uf.G) (t u : Tm) : Bool := decide (t.name = u.name) && decide (t.args.length = u.args.length) && (List.range t.args.length).all fun k => sameB n g ((t.args[k]?.getD 0 : Nat) : Int) ((u.args[k]?.getD 0 : Nat) : Int)

theorem alikeB_iff {l : List Tm} {g : Uf.G} {K : Nat} (hok : Uf.Ok l.length g K) (hb : Cc.Bd l) {i j : Nat} {t u : Tm} (ht : l[i]? = some t) (hu : l[j]? = some u) : alikeB l.length g t u = true ↔ t.name = u.name ∧ t.args.length = u.args.length ∧ ∀ k a b : Nat, t.args[k]? = some a → u.args[k]? = some b → g.lo a = g.lo b := by
  simp only [alikeB, Bool.and_eq_true, decide_eq_true_eq, List.all_eq_true, List.mem_range]
  constructor
  · rintro ⟨⟨h1, h2⟩, h3⟩
    refine ⟨h1, h2, fun k a b ha hb' => ?_⟩
    have hk := (List.getElem?_eq_some_iff.1 ha).1
    have := h3 k hk
    rw [ha, hb'] at this
    simp only [Option.getD_some, sameB, Bool.and_eq_true, decide_eq_true_eq, Int.toNat_natCast] at this
    exact lo_of_rt this.2
  · rintro ⟨h1, h2, h3⟩
    refine ⟨⟨h1, h2⟩, fun k hk => ?_⟩
    have ha : t.args[k]? = some t.args[k] := List.getElem?_eq_getElem hk
    have hb' : u.args[k]? = some (u.args[k]'(h2 ▸ hk)) := List.getElem?_eq_getElem _
    have l1 := hb.args i t ht _ (List.getElem_mem hk)
    have l2 := hb.args j u hu _ (List.getElem_mem (h2 ▸ hk : k < u.args.length))
    rw [ha, hb']
    simp only [Option.getD_some, sameB, Bool.and_eq_true, decide_eq_true_eq, Int.toNat_natCast, inB_nat l1, inB_nat l2, true_and]
    exact rt_of_lo hok l1 l2 (h3 k _ _ ha hb')

theorem alike_cg {l : List Tm} {P : List (Nat × Nat)} {s : GT} (h : Ju l P s) (hb : Cc.Bd l) {i j : Nat} {t u : Tm} (ht : l[i]? = some t) (hu : l[j]? = some u) (ha : alikeB l.length s.1 t u = true) : Cc.Cg l P i j := by
  obtain ⟨h1, h2, h3⟩ := (alikeB_iff h.ok hb ht hu).1 ha
  refine .cong ht hu h1 h2 (fun k a b ha hb' => h.sound a b (hb.args i t ht a (List.mem_of_getElem? ha)) (hb.args j u hu b (List.mem_of_getElem? hb')) (h3 k a b ha hb'))

/-- Nothing more follows. -/
structure Done (l : List Tm) (P : List (Nat × Nat)) (s : GT) : Prop where
  told : ∀ p, p ∈ P → s.1.lo p.1 = s.1.lo p.2
  cls : ∀ i k t u, k < i → l[i]? = some t → l[k]? = some u → alikeB l.length s.1 t u = true → s.1.lo i = s.1.lo k

theorem Ju.all {l : List Tm} {P : List (Nat × Nat)} {s : GT} (h : Ju l P s) (hb : Cc.Bd l) (hd : Done l P s) {i j : Nat} (hc : Cc.Cg l P i j) : s.1.lo i = s.1.lo j := by
  induction hc with
  | told hm _ _ => exact hd.told _ hm
  | refl _ => rfl
  | symm _ ih => exact ih.symm
  | trans _ _ i1 i2 => exact i1.trans i2
  | @cong i j t u h1 h2 h3 h4 _ ih =>
    rcases Nat.lt_trichotomy i j with e | e | e
    · refine (hd.cls j i u t e h2 h1 ((alikeB_iff h.ok hb h2 h1).2 ⟨h3.symm, h4.symm, fun k a b ha hb' => (ih k b a hb' ha).symm⟩)).symm
    · rw [e]
    · exact hd.cls i j t u e h1 h2 ((alikeB_iff h.ok hb h1 h2).2 ⟨h3, h4, ih⟩)

/-- The least ones are the same, whoever reckons them. -/
theorem least_unique {n : Nat} {lo lo' : Nat → Nat} (h1 : ∀ i, i < n → lo i ≤ i) (h2 : ∀ i, i < n → lo (lo i) = lo i) (h3 : ∀ i, i < n → lo' i ≤ i) (h4 : ∀ i, i < n → lo' (lo' i) = lo' i) (he : ∀ i j, i < n → j < n → (lo i = lo j ↔ lo' i = lo' j)) {i : Nat} (hi : i < n) : lo i = lo' i := by
  have a1 := h1 i hi
  have a3 := h3 i hi
  have x := (he i (lo i) hi (by omega)).1 (h2 i hi).symm
  have y := (he i (lo' i) hi (by omega)).2 (h4 i hi).symm
  have b1 := h1 (lo' i) (by omega)
  have b2 := h3 (lo i) (by omega)
  omega

theorem Ju.least {l : List Tm} {P : List (Nat × Nat)} {s : GT} (h : Ju l P s) (hb : Cc.Bd l) (hd : Done l P s) {w : World} {base : Nat} {c : Ks} (C : Cl w base l c P) {i : Nat} (hi : i < l.length) : s.1.lo i = c.z.g.lo i := by
  refine least_unique h.ok.lole (fun i hi => ?_) C.un.inv.le C.un.inv.idem (fun i j hi hj => ?_) hi
  · exact (lo_root h.ok (by have := h.ok.lole i hi; omega) hi).2 (h.ok.loin i hi)
  · rw [C.un.inv.fin hi hj]
    exact ⟨h.sound i j hi hj, h.all hb hd⟩

end Go.Proofs.Ytinphcnknionmaa

namespace Go.Proofs.Ytinphcnknionmaa
open Go.RowKit Go.Maps

theorem Ref.kept0 {w w' : World} {base rp n : Nat} {lv : Value} {log : List (List Nat)} (h : Ref w base rp n lv log) (K : Kept0 w w') : Ref w' base rp n lv log := by
  obtain ⟨vals, h1, h2, h3⟩ := h.rows
  refine ⟨h.sets.of_block (K.block _ h.sets.lt (fun e => e)), h.low, ⟨vals, h1, ownsRow_block h2 (fun k hk => K.block k (h2.lt k hk).2 (fun e => e)), fun k l hl => ?_⟩, h.small⟩
  obtain ⟨v, hv, ho⟩ := h3 k l hl
  exact ⟨v, hv, ownsRow_block ho (fun k hk => K.block k (ho.lt k hk).2 (fun e => e))⟩

theorem rSame_k (w : World) (base rp n : Nat) (lv : Value) (s : GT) (h : RefS w base rp n lv s) (ht : s.2.length ≤ 150) (k : Nat) (hok : Uf.Ok n s.1 k) (a b : Int) :
    Calls Try.prog 35 #[.pointer (some ⟨rp, 0, none⟩), .int .i64 a, .int .i64 b] w fun e w' => e = .returned (.bool (sameB n s.1 a b)) ∧ Kept0 w w' :=
  (rSame_in w base rp n lv s h ht k hok a b).mono fun _ _ ⟨h1, m, h2⟩ => ⟨h1, h2 ▸ (Kept.refl _ w).drewN m⟩

/-- The first k args are the same. -/
def alikeTo (n : Nat) (g : Uf.G) (t u : Tm) (k : Nat) : Prop := ∀ j, j < k → sameB n g ((t.args[j]?.getD 0 : Nat) : Int) ((u.args[j]?.getD 0 : Nat) : Int) = true

set_option maxHeartbeats 2000000 in
set_option maxRecDepth 100000 in
theorem alike_in (w : World) (base B : Nat) (t u : Tm) (vt vu : Value) (ht : ArgsAt1 w base t.args vt) (hu : ArgsAt1 w base u.args vu) (h4 : t.args.length ≤ 4) (rp n : Nat) (lv : Value) (s : GT) (h : RefS w B rp n lv s) (hs : s.2.length ≤ 150) (K0 : Nat) (hok : Uf.Ok n s.1 K0) :
    Calls Try.prog 92 #[.pointer (some ⟨rp, 0, none⟩), .agg #[.string t.name, vt], .agg #[.string u.name, vu]] w fun e w' => e = .returned (.bool (alikeB n s.1 t u)) ∧ Kept0 w w' := by
  obtain ⟨ta, tc, rfl⟩ := row_form ht
  obtain ⟨ua, uc, rfl⟩ := row_form hu
  have K1 : Kept0 w (w.alloc (.cells #[.string t.name, .slice ta t.args.length tc] 114)) := Kept.alloc (Kept.refl _ w) _
  have R1 := made_row w #[.string t.name, .slice ta t.args.length tc] 114
  have s1 : (w.alloc (.cells #[.string t.name, .slice ta t.args.length tc] 114)).heap.size = w.heap.size + 1 := by simp
  generalize hw1 : w.alloc (.cells #[.string t.name, .slice ta t.args.length tc] 114) = w1 at *
  have K2 : Kept0 w1 (w1.alloc (.cells #[.string u.name, .slice ua u.args.length uc] 114)) := Kept.alloc (Kept.refl _ w1) _
  have R2 := made_row w1 #[.string u.name, .slice ua u.args.length uc] 114
  rw [s1] at R2
  generalize hw2 : w1.alloc (.cells #[.string u.name, .slice ua u.args.length uc] 114) = w2 at *
  have R1' := World.rowIs.of_block R1 (K2.block w.heap.size (World.rowIs.lt R1) (fun e => e))
  have K : Kept0 w w2 := Kept.trans K1 K2
  have CS : Hid (∀ W, Kept0 w2 W → W.cell? ⟨w.heap.size, 0, none⟩ = some (.string t.name) ∧ W.cell? ⟨w.heap.size, 1, none⟩ = some (.slice ta t.args.length tc) ∧ W.cell? ⟨w.heap.size + 1, 0, none⟩ = some (.string u.name) ∧ W.cell? ⟨w.heap.size + 1, 1, none⟩ = some (.slice ua u.args.length uc)) := fun W KW => by
    have A := World.rowIs.of_block R1' (KW.block _ (World.rowIs.lt R1') (fun e => e))
    have B := World.rowIs.of_block R2 (KW.block _ (World.rowIs.lt R2) (fun e => e))
    exact ⟨World.rowIs.cell A (i := 0) (by simp), World.rowIs.cell A (i := 1) (by simp), World.rowIs.cell B (i := 0) (by simp), World.rowIs.cell B (i := 1) (by simp)⟩
  obtain ⟨a0, a1, b0, b1⟩ := CS.out w2 (Kept.refl _ w2)
  have HT : Hid (∀ W, Kept0 w2 W → ArgsAt1 W base t.args (.slice ta t.args.length tc) ∧ ArgsAt1 W base u.args (.slice ua u.args.length uc)) := fun W KW => by
    have KZ : Kept0 w W := K.trans KW
    exact ⟨ht.kept KZ.grownBy (Decidable.em _), hu.kept KZ.grownBy (Decidable.em _)⟩
  have SM : Hid (∀ W (m : Nat) (a b : Int), Kept0 w2 W → Calls Try.prog 35 #[.pointer (some ⟨rp, 0, none⟩), .int .i64 a, .int .i64 b] (W.drewN m) fun e w' => e = .returned (.bool (sameB n s.1 a b)) ∧ Kept0 W w') := fun W m a b KW =>
    (rSame_k (W.drewN m) B rp n lv s (h.kept0 ((K.trans KW).drewN m)) hs K0 hok a b).mono fun _ _ ⟨h1, h2⟩ => ⟨h1, ((Kept.refl _ W).drewN m).trans h2⟩
  clear R1 R2 R1' K1 K2 ht hu h hok
  go_enter Try.func92, Try.ntmps92
  by_cases hn' : t.name = u.name
  · have hn : Hid (t.name = u.name) := hn'
    have dn : (t.name.toList == u.name.toList) = true := by rw [hn']; simp
    clear hn'
    by_cases hl' : t.args.length = u.args.length
    · have hl : Hid (t.args.length = u.args.length) := hl'
      have dl : ((t.args.length : Int) != (u.args.length : Int)) = false := by simp [hl']
      clear hl'
      go_wp2_with fail
      clear a0 a1 b0 b1
      go_loopw [7] (fun t7 W => ∃ k : Nat, k ≤ t.args.length ∧ t7 = .int .i64 (k : Int) ∧ Hid (alikeTo n s.1 t u k) ∧ Kept0 w2 W) (fun t7 _ => t.args.length - (intOf t7).toNat)
      case atStart => exact ⟨0, by omega, rfl, fun j hj => absurd hj (Nat.not_lt_zero _), Kept.refl _ _⟩
      case round =>
        obtain ⟨k, hk, rfl, htk, KW⟩ := hrel
        obtain ⟨_, a1, _, b1⟩ := CS.out wr KW
        by_cases hk2 : k < t.args.length
        · have dk : decide ((k : Int) < (t.args.length : Int)) = true := decide_eq_true (by omega)
          have hk3 : k < u.args.length := by rw [← hl.out]; exact hk2
          obtain ⟨g, cap, hg1, hg2⟩ := arg_cell (HT.out wr KW).1 hk2
          obtain ⟨g', cap', hg3, hg4⟩ := arg_cell (HT.out wr KW).2 hk3
          injection hg1 with e1 _ e3
          injection hg3 with e4 _ e6
          subst e1 e3 e4 e6
          have SM1 := SM.out wr 1 (t.args[k] : Int) (u.args[k] : Int) KW
          have NX : Hid (sameB n s.1 (t.args[k] : Int) (u.args[k] : Int) = true → alikeTo n s.1 t u (k + 1)) := fun e j hj => by
            rcases Nat.lt_succ_iff_lt_or_eq.1 hj with hj | hj
            · exact htk.out j hj
            · subst hj
              rw [List.getElem?_eq_getElem hk2, List.getElem?_eq_getElem hk3]
              exact e
          have NO : Hid (sameB n s.1 (t.args[k] : Int) (u.args[k] : Int) = false → alikeB n s.1 t u = false) := fun e => by
            rw [alikeB, Bool.and_eq_false_iff]
            refine .inr (List.all_eq_false.2 ⟨k, List.mem_range.2 hk2, ?_⟩)
            rw [List.getElem?_eq_getElem hk2, List.getElem?_eq_getElem hk3]
            simpa using e
          generalize t.args[k] = x at *
          generalize u.args[k] = y at *
          cases hsm : sameB n s.1 (x : Int) (y : Int)
          · rw [hsm] at SM1
            have NO1 := NO.out hsm
            clear hsm NX NO
            go_wp2_with fail
            go_region_with (go_at_call 35; refine SM1.mono ?_; rintro e w5 ⟨rfl, K5⟩)
            all_goals
              go_wp2_with fail
              go_ret
              exact ⟨ret_bool NO1.symm, (K.trans KW).trans K5⟩
          · rw [hsm] at SM1
            have NX1 : Hid _ := NX.out hsm
            clear hsm NX NO
            go_wp2_with fail
            go_region_with (go_at_call 35; refine SM1.mono ?_; rintro e w5 ⟨rfl, K5⟩)
            all_goals
              go_wp2_with fail
              exact ⟨⟨k + 1, by omega, by simp, NX1, KW.trans K5⟩, by simp [intOf]; omega⟩
        · have dk : decide ((k : Int) < (t.args.length : Int)) = false := decide_eq_false (by omega)
          have hkl : k = t.args.length := by omega
          have YES : alikeB n s.1 t u = true := by
            simp only [alikeB, Bool.and_eq_true, decide_eq_true_eq, List.all_eq_true, List.mem_range]
            exact ⟨⟨hn.out, hl.out⟩, fun j hj => htk.out j (by omega)⟩
          clear hkl
          go_wp2_with fail
          go_ret
          exact ⟨ret_bool YES.symm, K.trans KW⟩
    · have dl : ((t.args.length : Int) != (u.args.length : Int)) = true := by simp; omega
      have NO : alikeB n s.1 t u = false := by simp [alikeB, hl']
      go_wp2_with fail
      go_ret
      exact ⟨ret_bool NO.symm, K⟩
  · have dn : (t.name.toList == u.name.toList) = false := beq_eq_false_iff_ne.2 (fun e => hn' (toList_name e))
    have NO : alikeB n s.1 t u = false := by simp [alikeB, hn']
    go_wp2_with fail
    go_ret
    exact ⟨ret_bool NO.symm, K⟩

end Go.Proofs.Ytinphcnknionmaa

namespace Go.Proofs.Ytinphcnknionmaa
open Go.RowKit Go.Maps

/-- The document's Sets, and what they say. -/
structure Dz (w W : World) (l : List Tm) (P : List (Nat × Nat)) (rp : Nat) (lv : Value) (s : GT) : Prop where
  ref : RefS W w.heap.size rp l.length lv s
  ju : Ju l P s
  kept : Kept0 w W
theorem Dz.kept0 {w W W' : World} {l : List Tm} {P : List (Nat × Nat)} {rp : Nat} {lv : Value} {s : GT} (h : Dz w W l P rp lv s) (K : Kept0 W W') : Dz w W' l P rp lv s := ⟨Ref.kept0 h.ref K, h.ju, h.kept.trans K⟩
theorem Dz.few {w W : World} {l : List Tm} {P : List (Nat × Nat)} {rp : Nat} {lv : Value} {s : GT} (h : Dz w W l P rp lv s) : s.2.length ≤ 150 := Nat.le_trans h.ju.ok.num_le h.ref.small
theorem Dz.join {w W : World} {l : List Tm} {P : List (Nat × Nat)} {rp : Nat} {lv : Value} {s : GT} (h : Dz w W l P rp lv s) {a b : Nat} (ha : a < l.length) (hb : b < l.length) (hc : Cc.Cg l P a b) :
    Calls Try.prog 30 #[.pointer (some ⟨rp, 0, none⟩), .int .i64 (a : Int), .int .i64 (b : Int)] W fun e W' => (∃ x, e = .returned (.bool x)) ∧ ∃ lv', Dz w W' l P rp lv' (stp l.length s ((a : Int), (b : Int))) := by
  refine (rJoin_in W w.heap.size rp l.length lv s h.ref h.kept.size h.few _ h.ju.ok a b).mono ?_
  rintro e W' ⟨he, lv', hr, hK⟩
  refine ⟨⟨_, he⟩, lv', hr, h.ju.step ha hb hc, h.kept.into hK (fun k hk => .inr ?_)⟩
  rcases hk with e | e
  · rw [e]; exact h.ref.low
  · obtain ⟨vals, _, h2, _⟩ := h.ref.rows
    exact (h2.lt k e).1

def pInt (P : List (Nat × Nat)) : List (Int × Int) := P.map fun p => ((p.1 : Int), (p.2 : Int))

/-- The pairs that were told are the same. -/
def ToldTo (s : GT) (P : List (Nat × Nat)) (k : Nat) : Prop := ∀ p, p ∈ P.take k → s.1.lo p.1 = s.1.lo p.2
/-- Nothing follows from the pairs of terms that were looked at. -/
def ClsTo (l : List Tm) (s : GT) (i k : Nat) : Prop := ∀ i' k' t u, (i' < i ∨ (i' = i ∧ k' < k)) → k' < i' → l[i']? = some t → l[k']? = some u → alikeB l.length s.1 t u = true → s.1.lo i' = s.1.lo k'

theorem ToldTo.step {l : List Tm} {P : List (Nat × Nat)} {s : GT} {k : Nat} (h : ToldTo s P k) (hok : Uf.Ok l.length s.1 s.2.length) (hin : ∀ p, p ∈ P → p.1 < l.length ∧ p.2 < l.length) {p : Nat × Nat} (hp : P[k]? = some p) : ToldTo (stp l.length s ((p.1 : Int), (p.2 : Int))) P (k + 1) := by
  intro q hq
  obtain ⟨h1, h2⟩ := hin p (List.mem_of_getElem? hp)
  rw [List.take_add_one, hp, Option.toList_some, List.mem_append, List.mem_singleton] at hq
  rcases hq with hq | hq
  · obtain ⟨g1, g2⟩ := hin q (List.mem_of_mem_take hq)
    exact (stp_lo hok h1 h2).1 _ _ g1 g2 (h q hq)
  · rw [hq]
    exact (stp_lo hok h1 h2).2.1
theorem ToldTo.join {l : List Tm} {P : List (Nat × Nat)} {s : GT} {k : Nat} (h : ToldTo s P k) (hok : Uf.Ok l.length s.1 s.2.length) (hin : ∀ p, p ∈ P → p.1 < l.length ∧ p.2 < l.length) {a b : Nat} (ha : a < l.length) (hb : b < l.length) : ToldTo (stp l.length s ((a : Int), (b : Int))) P k := fun q hq => by
  obtain ⟨g1, g2⟩ := hin q (List.mem_of_mem_take hq)
  exact (stp_lo hok ha hb).1 _ _ g1 g2 (h q hq)

theorem ClsTo.next {l : List Tm} {s : GT} {i k : Nat} (h : ClsTo l s i k) (hn : ∀ t u, l[i]? = some t → l[k]? = some u → alikeB l.length s.1 t u = true → s.1.lo i = s.1.lo k) : ClsTo l s i (k + 1) := fun i' k' t u hh hk ht hu ha => by
  by_cases e : i' = i ∧ k' = k
  · obtain ⟨rfl, rfl⟩ := e
    exact hn t u ht hu ha
  · exact h i' k' t u (by omega) hk ht hu ha
theorem ClsTo.row {l : List Tm} {s : GT} {i : Nat} (h : ClsTo l s i i) : ClsTo l s (i + 1) 0 := fun i' k' t u hh hk ht hu ha => h i' k' t u (by omega) hk ht hu ha
theorem ClsTo.none (l : List Tm) (s : GT) : ClsTo l s 0 0 := fun i' k' _ _ hh => by omega

/-- What a round has come to: whether something was joined. -/
structure Rn (l : List Tm) (P : List (Nat × Nat)) (n0 : Nat) (m : Bool) (s : GT) (i k : Nat) : Prop where
  told : ToldTo s P P.length
  more : m = true → n0 + 1 ≤ s.2.length
  cls : m = false → ClsTo l s i k

theorem Rn.skip {l : List Tm} {P : List (Nat × Nat)} {n0 : Nat} {m : Bool} {s : GT} {i k : Nat} (h : Rn l P n0 m s i k) (hn : ∀ t u, l[i]? = some t → l[k]? = some u → alikeB l.length s.1 t u = true → s.1.lo i = s.1.lo k) : Rn l P n0 m s i (k + 1) := ⟨h.told, h.more, fun e => (h.cls e).next hn⟩
theorem Rn.row {l : List Tm} {P : List (Nat × Nat)} {n0 : Nat} {m : Bool} {s : GT} {i : Nat} (h : Rn l P n0 m s i i) : Rn l P n0 m s (i + 1) 0 := ⟨h.told, h.more, fun e => (h.cls e).row⟩
theorem Rn.join {l : List Tm} {P : List (Nat × Nat)} {n0 : Nat} {m : Bool} {s : GT} {i k : Nat} (h : Rn l P n0 m s i k) (h0 : n0 ≤ s.2.length) (hok : Uf.Ok l.length s.1 s.2.length) (hin : ∀ p, p ∈ P → p.1 < l.length ∧ p.2 < l.length) (hi : i < l.length) (hk : k < l.length) (hs : sameB l.length s.1 (i : Int) (k : Int) = false) :
    Rn l P n0 true (stp l.length s ((i : Int), (k : Int))) i (k + 1) ∧ n0 ≤ (stp l.length s ((i : Int), (k : Int))).2.length := by
  have hj : joins l.length s.1 (i : Int) (k : Int) = true := by
    simp only [sameB, inB_nat hi, inB_nat hk, Bool.true_and] at hs
    simp only [joins, inB_nat hi, inB_nat hk, Bool.true_and, hs]
    rfl
  have e := stp_yes (s := s) hj
  exact ⟨⟨h.told.join hok hin hi hk, fun _ => by omega, fun e => by cases e⟩, by omega⟩

theorem Rn.done {l : List Tm} {P : List (Nat × Nat)} {n0 : Nat} {s : GT} (h : Rn l P n0 false s l.length 0) : Done l P s := by
  refine ⟨fun p hp => h.told p (by rw [List.take_length]; exact hp), fun i k t u hk ht hu ha => h.cls rfl i k t u (.inl (List.getElem?_eq_some_iff.1 ht).1) hk ht hu ha⟩

end Go.Proofs.Ytinphcnknionmaa

namespace Go.Proofs.Ytinphcnknionmaa
open Go.RowKit Go.Maps

set_option maxHeartbeats 4000000 in
set_option maxRecDepth 100000 in
theorem closed_in (w : World) (base : Nat) (aa : Option Addr) (ac : Nat) (l : List Tm) (vs : List Value) (hL : Ls w base (.slice aa l.length ac) l vs) (hb : Cc.Bd l) (hl : l.length ≤ 150) (a : Option Addr) (cp : Nat) (P : List (Nat × Nat)) (hP : Prw w a (pInt P)) (hin : ∀ p, p ∈ P → p.1 < l.length ∧ p.2 < l.length) (hr : P.length ≤ 8796093022208) :
    Calls Try.prog 43 #[.slice aa l.length ac, .slice a P.length cp] w fun e w' => ∃ v s, e = .returned v ∧ w'.ownsRow w.heap.size 3 1 v l.length (intsC (Uf.los l.length s.1)) ∧ Ju l P s ∧ Done l P s ∧ Kept0 w w' := by
  have NEW := rNew_in w l.length hl
  have HIN : Hid (∀ p, p ∈ P → p.1 < l.length ∧ p.2 < l.length) := hin
  have HP : Hid (Prw w a (pInt P)) := hP
  have HL : Hid (Ls w base (.slice aa l.length ac) l vs) := hL
  have HB : Hid (Cc.Bd l) := hb
  clear hin hP hL hb
  go_enter Try.func43, Try.ntmps43
  go_wp2_with (go_at_call 28; refine NEW.mono ?_; rintro e w1 ⟨rp, lv, rfl, R1, B1⟩)
  have D0 : Dz w w1 l P rp lv (Uf.g0, []) := ⟨R1, Ju.start l P, below_kept0 B1⟩
  clear NEW R1 B1
  go_loopw [6] (fun t6 W => ∃ (k : Nat) (lv : Value) (s : GT), k ≤ P.length ∧ t6 = .int .i64 (k : Int) ∧ Dz w W l P rp lv s ∧ Hid (ToldTo s P k)) (fun t6 _ => P.length - (intOf t6).toNat)
  case atStart => exact ⟨0, lv, _, Nat.zero_le _, rfl, D0, fun p hp => by simp at hp⟩
  case round =>
    clear D0
    obtain ⟨k, lv, s, hk, rfl, D, T⟩ := hrel
    by_cases hk2 : k < P.length
    · have dk : decide ((k : Int) < (P.length : Int)) = true := decide_eq_true (by omega)
      have hx : P[k]? = some P[k] := List.getElem?_eq_getElem hk2
      generalize hok : P[k] = q at hx
      clear hok
      obtain ⟨b, off, rfl, hbl, y1, y2⟩ := HP.out.kept0 D.kept k ((q.1 : Int), (q.2 : Int)) (by rw [pInt, List.getElem?_map, hx]; rfl)
      have y1' : wr.cell? ⟨b, off + k * 2, none⟩ = some (.int .i64 (q.1 : Int)) := y1
      have y2' : wr.cell? ⟨b, off + k * 2 + 1, none⟩ = some (.int .i64 (q.2 : Int)) := y2
      obtain ⟨q1, q2⟩ := HIN.out q (List.mem_of_getElem? hx)
      have JN : ∀ m, Calls Try.prog 30 #[.pointer (some ⟨rp, 0, none⟩), .int .i64 (q.1 : Int), .int .i64 (q.2 : Int)] (wr.drewN m) fun e W' => (∃ x, e = .returned (.bool x)) ∧ ∃ lv', Dz w W' l P rp lv' (stp l.length s ((q.1 : Int), (q.2 : Int))) := fun m => (D.kept0 ((Kept.refl _ wr).drewN m)).join q1 q2 (.told (List.mem_of_getElem? hx) q1 q2)
      have T2 : Hid (ToldTo (stp l.length s ((q.1 : Int), (q.2 : Int))) P (k + 1)) := T.out.step D.ju.ok HIN.out hx
      clear D T hx y1 y2
      generalize q.1 = qa at *
      generalize q.2 = qb at *
      go_wp2_with fail
      go_region_with (go_at_call 30; refine (JN 1).mono ?_; rintro e w5 ⟨⟨x5, rfl⟩, lv5, D5⟩)
      all_goals
        go_wp2_with fail
        exact ⟨⟨k + 1, lv5, _, hk2, by simp, D5, T2⟩, by simp [intOf]; omega⟩
    · have dk : decide ((k : Int) < (P.length : Int)) = false := decide_eq_false (by omega)
      obtain rfl : k = P.length := by omega
      go_wp2_with fail
      go_loopg [7] (l.length + 1) (fun gk t7 W => ∃ (m : Bool) (lv : Value) (s : GT), t7 = .bool m ∧ Dz w W l P rp lv s ∧ Hid (ToldTo s P P.length) ∧ (m = true → l.length + 1 ≤ s.2.length + gk) ∧ Hid (m = false → Done l P s))
      case atStart => exact ⟨true, lv, s, rfl, D, T, fun _ => by omega, fun e => by cases e⟩
      case round =>
        clear D T
        obtain ⟨m, lv, s, rfl, D, T, hg, DN⟩ := hrel
        cases m with
        | false =>
          have NOW : Calls Try.prog 80 #[.pointer (some ⟨rp, 0, none⟩)] wr fun e w' => ∃ va vc, e = .returned (.slice va l.length vc) ∧ w'.ownsRow w.heap.size 3 1 (.slice va l.length vc) l.length (intsC (Uf.los l.length s.1)) ∧ Kept0 wr w' := by
            refine (RefS.now wr w.heap.size rp l.length lv s D.ref D.few).mono ?_
            rintro e w' ⟨v, m, rfl, rfl, R⟩
            obtain ⟨va, vc, rfl⟩ := row_form R
            exact ⟨va, vc, rfl, ownsRow_block R (fun _ _ => rfl), (Kept.refl _ wr).drewN m⟩
          have FIN : Hid (_ ∧ _ ∧ _) := And.intro D.ju (And.intro (DN.out rfl) D.kept)
          clear D T hg DN
          go_wp2_with (go_at_call 80; refine NOW.mono ?_; rintro e w5 ⟨va, vc, rfl, R5, K5⟩)
          go_ret
          exact ⟨_, s, rfl, R5, FIN.out.1, FIN.out.2.1, FIN.out.2.2.trans K5⟩
        | true =>
          have hg' := hg rfl
          have hnl := D.ju.ok.num_le
          obtain ⟨n0, hn0⟩ : ∃ n0, n0 = s.2.length := ⟨_, rfl⟩
          rw [← hn0] at hg' hnl
          have R0 : Rn l P n0 false s 0 0 := ⟨T.out, (fun e => by cases e), fun _ => ClsTo.none l s⟩
          have h0 : n0 ≤ s.2.length := by omega
          clear hg DN T hn0
          go_wp2_with fail
          go_loopw [7, 8] (fun t7 t8 W => ∃ (m : Bool) (i : Nat) (lv : Value) (s : GT), i ≤ l.length ∧ t7 = .bool m ∧ t8 = .int .i64 (i : Int) ∧ Dz w W l P rp lv s ∧ Hid (Rn l P n0 m s i 0) ∧ Hid (n0 ≤ s.2.length)) (fun _ t8 _ => l.length - (intOf t8).toNat)
          case atStart => exact ⟨false, 0, lv, s, Nat.zero_le _, rfl, rfl, D, R0, h0⟩
          case round =>
            clear D R0 h0
            obtain ⟨m, i, lv, s, hi, rfl, rfl, D, R, h0⟩ := hrel
            by_cases hi2 : i < l.length
            · have di : decide ((i : Int) < (l.length : Int)) = true := decide_eq_true (by omega)
              go_wp2_with fail
              go_loopw [7, 9] (fun t7 t9 W => ∃ (m : Bool) (k : Nat) (lv : Value) (s : GT), k ≤ i ∧ t7 = .bool m ∧ t9 = .int .i64 (k : Int) ∧ Dz w W l P rp lv s ∧ Hid (Rn l P n0 m s i k) ∧ Hid (n0 ≤ s.2.length)) (fun _ t9 _ => i - (intOf t9).toNat)
              case atStart => exact ⟨m, 0, lv, s, Nat.zero_le _, rfl, rfl, D, R, h0⟩
              case round =>
                clear D R h0
                obtain ⟨m, k, lv, s, hk, rfl, rfl, D, R, h0⟩ := hrel
                by_cases hk2 : k < i
                · have dk2 : decide ((k : Int) < (i : Int)) = true := decide_eq_true (by omega)
                  have SM := rSame_k wr w.heap.size rp l.length lv s D.ref D.few _ D.ju.ok (i : Int) (k : Int)
                  cases hs : sameB l.length s.1 (i : Int) (k : Int)
                  · rw [hs] at SM
                    have hti : l[i]? = some l[i] := List.getElem?_eq_getElem hi2
                    have hkl : k < l.length := by omega
                    have htk : l[k]? = some l[k] := List.getElem?_eq_getElem hkl
                    generalize hei : l[i] = ti at hti
                    generalize hek : l[k] = tk at htk
                    clear hei hek
                    obtain ⟨g, cap, vi, hav, hvi, _, _, hai⟩ := HL.out.at hti
                    obtain ⟨g', cap', vk, hav', hvk, _, _, hak⟩ := HL.out.at htk
                    cases hav
                    cases hav'
                    obtain ⟨ia, ic, rfl⟩ := row_form hai
                    obtain ⟨ka, kc, rfl⟩ := row_form hak
                    have h4 := HB.out.four ti (List.mem_of_getElem? hti)
                    have CE : Hid (∀ W, Kept0 wr W → (W.cell? ⟨g, i * 2, none⟩ = some (.string ti.name) ∧ W.cell? ⟨g, i * 2 + 1, none⟩ = some (.slice ia ti.args.length ic) ∧ ArgsAt1 W base ti.args (.slice ia ti.args.length ic)) ∧ (W.cell? ⟨g, k * 2, none⟩ = some (.string tk.name) ∧ W.cell? ⟨g, k * 2 + 1, none⟩ = some (.slice ka tk.args.length kc) ∧ ArgsAt1 W base tk.args (.slice ka tk.args.length kc))) := fun W K => by
                      have LW := HL.out.kept0 (D.kept.trans K)
                      obtain ⟨g1, c1, v1, e1, f1, x1, x2, x3⟩ := LW.at hti
                      obtain ⟨g2, c2, v2, e2, f2, y1, y2, y3⟩ := LW.at htk
                      cases e1
                      cases e2
                      rw [hvi] at f1
                      rw [hvk] at f2
                      cases f1
                      cases f2
                      exact ⟨⟨x1, x2, x3⟩, y1, y2, y3⟩
                    have ALK : Hid (∀ W, Kept0 wr W → Calls Try.prog 92 #[.pointer (some ⟨rp, 0, none⟩), .agg #[.string ti.name, (.slice ia ti.args.length ic)], .agg #[.string tk.name, (.slice ka tk.args.length kc)]] W fun e w' => e = .returned (.bool (alikeB l.length s.1 ti tk)) ∧ Kept0 W w') := fun W K => by
                      obtain ⟨⟨_, _, x3⟩, _, _, y3⟩ := CE.out W K
                      exact alike_in W base w.heap.size ti tk _ _ x3 y3 h4 rp l.length lv s (D.kept0 K).ref D.few _ D.ju.ok
                    have NO : Hid (alikeB l.length s.1 ti tk = false → Rn l P n0 m s i (k + 1)) := fun ha => R.out.skip (fun t u e1 e2 e3 => by
                      rw [hti] at e1
                      rw [htk] at e2
                      cases e1
                      cases e2
                      rw [ha] at e3
                      cases e3)
                    have DK : Hid (∀ W, Kept0 wr W → Dz w W l P rp lv s) := fun W K => D.kept0 K
                    have R2 : Hid _ := R.out.join h0.out D.ju.ok HIN.out hi2 hkl hs
                    have JN : Hid (alikeB l.length s.1 ti tk = true → ∀ W, Kept0 wr W → Calls Try.prog 30 #[.pointer (some ⟨rp, 0, none⟩), .int .i64 (i : Int), .int .i64 (k : Int)] W fun e W' => (∃ x, e = .returned (.bool x)) ∧ ∃ lv', Dz w W' l P rp lv' (stp l.length s ((i : Int), (k : Int)))) := fun ha W K => (D.kept0 K).join hi2 hkl (alike_cg D.ju HB.out hti htk ha)
                    generalize alikeB l.length s.1 ti tk = B at *
                    clear R D hs hti htk
                    go_wp2_with (go_at_call 35; refine SM.mono ?_; rintro e w5 ⟨rfl, K5⟩)
                    have stay : ∀ W, Kept0 w5 W → (W.cell? ⟨g, i * 2, none⟩ = some (.string ti.name) ∧ W.cell? ⟨g, i * 2 + 1, none⟩ = some (.slice ia ti.args.length ic) ∧ W.cell? ⟨g, k * 2, none⟩ = some (.string tk.name) ∧ W.cell? ⟨g, k * 2 + 1, none⟩ = some (.slice ka tk.args.length kc)) := fun W K => by
                      obtain ⟨⟨x1, x2, _⟩, y1, y2, _⟩ := CE.out W (K5.trans K)
                      exact ⟨x1, x2, y1, y2⟩
                    have KD : ∀ m, Kept0 w5 (w5.drewN m) := fun m => Kept.drewN (Kept.refl _ w5) m
                    have AL : ∀ W, Kept0 w5 W → Calls Try.prog 92 #[.pointer (some ⟨rp, 0, none⟩), .agg #[.string ti.name, .slice ia ti.args.length ic], .agg #[.string tk.name, .slice ka tk.args.length kc]] W fun e w' => e = .returned (.bool B) ∧ Kept0 W w' := fun W K => ALK.out W (K5.trans K)
                    clear SM
                    go_region_held3 (fun W => W.cell? ⟨g, i * 2, none⟩ = some (.string ti.name) ∧ W.cell? ⟨g, i * 2 + 1, none⟩ = some (.slice ia ti.args.length ic) ∧ W.cell? ⟨g, k * 2, none⟩ = some (.string tk.name) ∧ W.cell? ⟨g, k * 2 + 1, none⟩ = some (.slice ka tk.args.length kc)) (exact stay _ (by first | assumption | exact KD 1)) (first | (go_at_call 92; refine (AL _ (by first | assumption | exact KD 1)).mono ?_; rintro e w6 ⟨rfl, K6⟩; have KS : Kept0 w5 w6 := Kept.trans (by first | assumption | exact KD 1) K6))
                    all_goals
                      clear stay KD AL
                      cases B with
                      | false =>
                        have R3 : Hid _ := NO.out rfl
                        go_wp2_with fail
                        exact ⟨⟨m, k + 1, lv, s, by omega, rfl, by simp, DK.out _ (K5.trans KS), R3, h0⟩, by simp [intOf]; omega⟩
                      | true =>
                        have JN1 := JN.out rfl _ (K5.trans KS)
                        go_wp2_with (go_at_call 30; refine JN1.mono ?_; rintro e w7 ⟨⟨x7, rfl⟩, lv7, D7⟩)
                        exact ⟨⟨true, k + 1, lv7, _, by omega, rfl, by simp, D7, R2.out.1, R2.out.2⟩, by simp [intOf]; omega⟩
                  · rw [hs] at SM
                    have R2 : Hid (Rn l P n0 m s i (k + 1)) := R.out.skip (fun _ _ _ _ _ => by
                      simp only [sameB, Bool.and_eq_true, decide_eq_true_eq, Int.toNat_natCast] at hs
                      exact lo_of_rt hs.2)
                    have DK : Hid (∀ W, Kept0 wr W → Dz w W l P rp lv s) := fun W K => D.kept0 K
                    clear R D hs
                    go_wp2_with (go_at_call 35; refine SM.mono ?_; rintro e w5 ⟨rfl, K5⟩)
                    go_quiet (fail)
                    go_wp2_with fail
                    exact ⟨⟨m, k + 1, lv, s, by omega, rfl, by simp, (DK.out w5 K5).kept0 ((Kept.refl _ w5).drewN _), R2, h0⟩, by simp [intOf]; omega⟩
                · have dk2 : decide ((k : Int) < (i : Int)) = false := decide_eq_false (by omega)
                  obtain rfl : k = i := by omega
                  have R2 : Hid _ := R.out.row
                  clear R
                  go_wp2_with fail
                  exact ⟨⟨m, k + 1, lv, s, hi2, rfl, by simp, D, R2, h0⟩, by simp [intOf]; omega⟩
            · have di : decide ((i : Int) < (l.length : Int)) = false := decide_eq_false (by omega)
              obtain rfl : i = l.length := by omega
              go_wp2_with fail
              go_roundg (gk - 1)
              case measure => omega
              case rel => exact ⟨m, lv, s, rfl, D, R.out.told, fun e => by have := R.out.more e; omega, fun e => by subst e; exact R.out.done⟩

end Go.Proofs.Ytinphcnknionmaa

namespace Go.Proofs.Ytinphcnknionmaa
open Go.RowKit Go.Maps

/-- The blocks of the document's list. -/
def Doc (av : Value) (vs : List Value) (k : Nat) : Prop := av.ownBlock = some k ∨ ∃ v, v ∈ vs ∧ v.ownBlock = some k
theorem Ls.doc_lt {w : World} {base : Nat} {av : Value} {l : List Tm} {vs : List Value} (h : Ls w base av l vs) {k : Nat} (hk : Doc av vs k) : k < w.heap.size := by
  rcases hk with e | ⟨v, hv, e⟩
  · exact (h.row.lt k e).2
  · obtain ⟨i, hi, rfl⟩ := List.getElem_of_mem hv
    have hil : i < l.length := by rw [← h.len]; exact hi
    exact ((h.args i l[i] vs[i] (List.getElem?_eq_getElem hil) (List.getElem?_eq_getElem hi)).lt k e).2
theorem Ls.keep {w w' : World} {base : Nat} {av : Value} {l : List Tm} {vs : List Value} (h : Ls w base av l vs) {S : Nat → Prop} (K : Kept S w w') (hS : ∀ k, Doc av vs k → ¬ S k) : Ls w' base av l vs :=
  ⟨h.len, ownsRow_block h.row (fun k hk => K.block k (h.row.lt k hk).2 (hS k (.inl hk))), fun i t v h1 h2 => by
    have ha := h.args i t v h1 h2
    exact ownsRow_block ha (fun k hk => K.block k (ha.lt k hk).2 (hS k (.inr ⟨v, List.mem_of_getElem? h2, hk⟩)))⟩
theorem Ls.types {w : World} {base : Nat} {av : Value} {l : List Tm} {vs : List Value} (h : Ls w base av l vs) {k : Nat} (hk : Doc av vs k) : ∃ c T fz, w.heap[k]? = some (.cells c T fz) ∧ (T = 114 ∨ T = 3) := by
  have one : ∀ {e : TypeId} {sz n : Nat} {v : Value} {xs : List Value}, w.ownsRow base e sz v n xs → v.ownBlock = some k → ∃ c fz, w.heap[k]? = some (.cells c e fz) := by
    intro e sz n v xs hr hb
    rcases hr.2 with ⟨rfl, _⟩ | ⟨b', cap, cur, rfl, _, h3, _⟩
    · simp [Value.ownBlock] at hb
    · simp [Value.ownBlock] at hb
      subst hb
      exact ⟨cur, _, h3⟩
  rcases hk with e | ⟨v, hv, e⟩
  · obtain ⟨c, fz, h1⟩ := one h.row e
    exact ⟨c, _, fz, h1, .inl rfl⟩
  · obtain ⟨i, hi, rfl⟩ := List.getElem_of_mem hv
    have hil : i < l.length := by rw [← h.len]; exact hi
    obtain ⟨c, fz, h1⟩ := one (h.args i l[i] vs[i] (List.getElem?_eq_getElem hil) (List.getElem?_eq_getElem hi)) e
    exact ⟨c, _, fz, h1, .inr rfl⟩

/-- All that CloseAll holds: the bank, the document's list, two closures, the pairs that were told. -/
structure Ca (w : World) (B : Nat) (W : World) (p nb fb : Nat) (av : Value) (l : List Tm) (vs : List Value) (ev : Value) (lb : List Tm) (c o : Ks) (P Q T : List (Nat × Nat)) (tv : Value) : Prop where
  bk : Bk W w.heap.size p ev nb fb lb
  bl : lb.length ≤ 150
  ls : Ls W w.heap.size av l vs
  low : ∀ k, Doc av vs k → k < B
  cq : Cq W B l c P
  ol : Cl W B l o Q
  dis : ∀ k, c.All k → ¬ o.All k
  row : W.ownsRow B 70 2 tv T.length (pairC (pInt T))
  farC : ∀ k, tv.ownBlock = some k → ¬ c.All k
  farO : ∀ k, tv.ownBlock = some k → ¬ o.All k
  apC : ∀ k, BFoot p ev nb fb k → ¬ c.All k
  apO : ∀ k, BFoot p ev nb fb k → ¬ o.All k
  apT : ∀ k, BFoot p ev nb fb k → tv.ownBlock ≠ some k
  apD : ∀ k, BFoot p ev nb fb k → ¬ Doc av vs k
  wb : w.heap.size ≤ B
  bel : Kept0 w W

theorem Bk.keep {w w' : World} {base p : Nat} {ev : Value} {nb fb : Nat} {l : List Tm} (h : Bk w base p ev nb fb l) {S : Nat → Prop} (K : Kept S w w') (hS : ∀ k, BFoot p ev nb fb k → ¬ S k) : Bk w' base p ev nb fb l :=
  h.blocks (K.block _ (h.foot_lt (.inl rfl)) (hS _ (.inl rfl))) (K.block _ (h.foot_lt (.inr (.inl rfl))) (hS _ (.inr (.inl rfl)))) (K.block _ (h.foot_lt (.inr (.inr (.inl rfl)))) (hS _ (.inr (.inr (.inl rfl))))) (fun k e => K.block k (h.foot_lt (.inr (.inr (.inr e)))) (hS k (.inr (.inr (.inr e)))))

theorem Ca.kept0 {w : World} {B : Nat} {W W' : World} {p nb fb : Nat} {av : Value} {l : List Tm} {vs : List Value} {ev : Value} {lb : List Tm} {c o : Ks} {P Q T : List (Nat × Nat)} {tv : Value} (h : Ca w B W p nb fb av l vs ev lb c o P Q T tv) (K : Kept0 W W') : Ca w B W' p nb fb av l vs ev lb c o P Q T tv :=
  ⟨h.bk.kept0 K, h.bl, h.ls.keep K (fun _ _ e => e), h.low, h.cq.kept0 K, h.ol.kept0 K, h.dis, ownsRow_block h.row (fun k hk => K.block k (h.row.lt k hk).2 (fun e => e)), h.farC, h.farO, h.apC, h.apO, h.apT, h.apD, h.wb, h.bel.trans K⟩

/-- The first closure has moved. -/
theorem Ca.movC {w : World} {B : Nat} {W W' : World} {p nb fb : Nat} {av : Value} {l : List Tm} {vs : List Value} {ev : Value} {lb : List Tm} {c c' o : Ks} {P P' Q T : List (Nat × Nat)} {tv : Value} (h : Ca w B W p nb fb av l vs ev lb c o P Q T tv) (K : Kept c.All W W') (hc : Cq W' B l c' P') (hA : ∀ k, c'.All k → c.All k ∨ W.heap.size ≤ k) : Ca w B W' p nb fb av l vs ev lb c' o P' Q T tv := by
  have new : ∀ {R : Nat → Prop}, (∀ k, R k → ¬ c.All k) → (∀ k, R k → k < W.heap.size) → ∀ k, R k → ¬ c'.All k := fun h1 h2 k hk hA' => by
    rcases hA k hA' with e | e
    · exact h1 k hk e
    · have := h2 k hk; omega
  refine ⟨h.bk.keep K h.apC, h.bl, h.ls.keep K (fun k hk hA' => ?_), h.low, hc, h.ol.keep K (fun k hk hA' => h.dis k hA' hk), fun k hk hk2 => new (R := o.All) (fun k hk hA' => h.dis k hA' hk) (fun k hk => h.ol.all_lt hk) k hk2 hk, ownsRow_block h.row (fun k hk => K.block k (h.row.lt k hk).2 (h.farC k hk)), new h.farC (fun k hk => (h.row.lt k hk).2), h.farO, new h.apC (fun k hk => h.bk.foot_lt hk), h.apO, h.apT, h.apD, h.wb, h.bel.into K (fun k hk => .inr (Nat.le_trans h.wb (h.cq.cl.all_ge hk)))⟩
  have h1 := h.low k hk
  have h2 := h.cq.cl.all_ge hA'
  omega
/-- The second closure has moved. -/
theorem Ca.movO {w : World} {B : Nat} {W W' : World} {p nb fb : Nat} {av : Value} {l : List Tm} {vs : List Value} {ev : Value} {lb : List Tm} {c o o' : Ks} {P Q Q' T : List (Nat × Nat)} {tv : Value} (h : Ca w B W p nb fb av l vs ev lb c o P Q T tv) (K : Kept o.All W W') (ho : Cl W' B l o' Q') (hA : ∀ k, o'.All k → o.All k ∨ W.heap.size ≤ k) : Ca w B W' p nb fb av l vs ev lb c o' P Q' T tv := by
  have new : ∀ {R : Nat → Prop}, (∀ k, R k → ¬ o.All k) → (∀ k, R k → k < W.heap.size) → ∀ k, R k → ¬ o'.All k := fun h1 h2 k hk hA' => by
    rcases hA k hA' with e | e
    · exact h1 k hk e
    · have := h2 k hk; omega
  refine ⟨h.bk.keep K h.apO, h.bl, h.ls.keep K (fun k hk hA' => ?_), h.low, ⟨h.cq.cl.keep K (fun k hk hA' => h.dis k hk hA'), h.cq.past⟩, ho, new h.dis (fun k hk => h.cq.cl.all_lt hk), ownsRow_block h.row (fun k hk => K.block k (h.row.lt k hk).2 (h.farO k hk)), h.farC, new h.farO (fun k hk => (h.row.lt k hk).2), h.apC, new h.apO (fun k hk => h.bk.foot_lt hk), h.apT, h.apD, h.wb, h.bel.into K (fun k hk => .inr (Nat.le_trans h.wb (h.ol.all_ge hk)))⟩
  have h1 := h.low k hk
  have h2 := h.ol.all_ge hA'
  omega
/-- The pairs that were told have moved. -/
theorem Ca.movT {w : World} {B : Nat} {W W' : World} {p nb fb : Nat} {av : Value} {l : List Tm} {vs : List Value} {ev : Value} {lb : List Tm} {c o : Ks} {P Q T T' : List (Nat × Nat)} {tv tv' : Value} (h : Ca w B W p nb fb av l vs ev lb c o P Q T tv) (K : Kept (fun k => tv.ownBlock = some k) W W') (hr : W'.ownsRow B 70 2 tv' T'.length (pairC (pInt T'))) (hl : tv'.ownBlock = tv.ownBlock ∨ ∀ k, tv'.ownBlock = some k → W.heap.size ≤ k) : Ca w B W' p nb fb av l vs ev lb c o P Q T' tv' := by
  have new : ∀ {R : Nat → Prop}, (∀ k, tv.ownBlock = some k → ¬ R k) → (∀ k, R k → k < W.heap.size) → ∀ k, tv'.ownBlock = some k → ¬ R k := fun h1 h2 k hk hR => by
    rcases hl with e | e
    · exact h1 k (e ▸ hk) hR
    · have := h2 k hR; have := e k hk; omega
  refine ⟨h.bk.keep K h.apT, h.bl, h.ls.keep K (fun k hk e => ?_), h.low, ⟨h.cq.cl.keep K (fun k hk e => h.farC k e hk), h.cq.past⟩, h.ol.keep K (fun k hk e => h.farO k e hk), h.dis, hr, new h.farC (fun k hk => h.cq.cl.all_lt hk), new h.farO (fun k hk => h.ol.all_lt hk), h.apC, h.apO, fun k hk e => new (R := BFoot p ev nb fb) (fun k hk hb => h.apT k hb hk) (fun k hk => h.bk.foot_lt hk) k e hk, h.apD, h.wb, h.bel.into K (fun k hk => .inr (Nat.le_trans h.wb (h.row.lt k hk).1))⟩
  have h1 := h.low k hk
  have h2 := (h.row.lt k e).1
  omega
/-- The bank has moved. -/
theorem Ca.movB {w : World} {B : Nat} {W W' : World} {p nb fb : Nat} {av : Value} {l : List Tm} {vs : List Value} {ev ev' : Value} {lb lb' : List Tm} {c o : Ks} {P Q T : List (Nat × Nat)} {tv : Value} (h : Ca w B W p nb fb av l vs ev lb c o P Q T tv) (K : Kept (BFoot p ev nb fb) W W') (hb : Bk W' w.heap.size p ev' nb fb lb') (hbl : lb'.length ≤ 150) (hl : ev'.ownBlock = ev.ownBlock ∨ ∀ k, ev'.ownBlock = some k → W.heap.size ≤ k) : Ca w B W' p nb fb av l vs ev' lb' c o P Q T tv := by
  have new : ∀ {R : Nat → Prop}, (∀ k, BFoot p ev nb fb k → ¬ R k) → (∀ k, R k → k < W.heap.size) → ∀ k, BFoot p ev' nb fb k → ¬ R k := fun h1 h2 k hk hR => by
    rcases hk with e | e | e | e
    · exact h1 k (.inl e) hR
    · exact h1 k (.inr (.inl e)) hR
    · exact h1 k (.inr (.inr (.inl e))) hR
    · rcases hl with e2 | e2
      · exact h1 k (.inr (.inr (.inr (e2 ▸ e)))) hR
      · have := h2 k hR; have := e2 k e; omega
  exact ⟨hb, hbl, h.ls.keep K (fun k hk e => h.apD k e hk), h.low, ⟨h.cq.cl.keep K (fun k hk e => h.apC k e hk), h.cq.past⟩, h.ol.keep K (fun k hk e => h.apO k e hk), h.dis, ownsRow_block h.row (fun k hk => K.block k (h.row.lt k hk).2 (fun e => h.apT k e hk)), h.farC, h.farO, new h.apC (fun k hk => h.cq.cl.all_lt hk), new h.apO (fun k hk => h.ol.all_lt hk), new (R := fun k => tv.ownBlock = some k) h.apT (fun k hk => (h.row.lt k hk).2), new h.apD (fun k hk => h.ls.doc_lt hk), h.wb, h.bel.into K (fun k hk => .inr (h.bk.foot_ge hk))⟩

end Go.Proofs.Ytinphcnknionmaa
