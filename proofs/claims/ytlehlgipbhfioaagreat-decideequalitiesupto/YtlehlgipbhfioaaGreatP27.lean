/- Package logic: equality. Package close: the steps that take back. Package logic: steps. slices.Backward over steps. Package close: takeBack: what it does, plainly. Package close: takeBack. Package logic: ends. Package close: takeBack's walk. Package close: takeBack where no step was ever kept. Regions that draw their order, in a round: walked as everywhere. -/
import Derived.Test.YtlehlgipbhfioaaGreatP25
import Derived.Test.YtlehlgipbhfioaaGreatCloN
import Derived.Test.YtlehlgipbhfioaaGreatP17
import Derived.RangeFuncBox
import Derived.Test.YtlehlgipbhfioaaGreatP04
import Derived.RangeFuncNested
import Derived.RangeFuncBound
import Derived.RangeFuncCalls
import Derived.RangeFuncLeaves
import Derived.Shelf.Abstract
import Derived.Shelf.RegionOpen
import Derived.OwnWalkIn
import Derived.TacticsInMore
import Derived.LoopNIn
import Derived.LoopIn
import Derived.Lib.SliceRun
import Derived.Deep.RegionLaw
namespace Go.Proofs.YtlehlgipbhfioaaGreat
open Go.RowKit Go.Maps

/-- What a function that reads a formula leaves. -/
def FoPost (base r p nb fb : Nat) (s : ByteArray) (d : Nat) (w : World) (ev : Value) : Res Fo → Ending → World → Prop
  | .ok f k l', e, w' => ∃ v, e = .returned v ∧ FVal w.heap.size w' v f ∧ ∃ ev', PB w' base r p ev' nb fb s k d l' ∧ Grew (fun k => k = r) p nb fb w ev w' ev'
  | .bad c q l', e, w' => e = .panicked [{ v := grefusalV c q, recovered := false }] ∧ ∃ ev' k d', PB w' base r p ev' nb fb s k d' l' ∧ Grew (fun k => k = r) p nb fb w ev w' ev'

/-- The place is another one. -/
theorem PB.step {w : World} {base r p : Nat} {ev : Value} {nb fb : Nat} {s : ByteArray} {i d : Nat} {l : List Tm} (h : PB w base r p ev nb fb s i d l) {k : Nat} (hk : k ≤ s.size) :
    PB (w.setCell ⟨r, 2, none⟩ (.int .i64 (k : Int))) base r p ev nb fb s k d l ∧ Grew (fun k => k = r) p nb fb w ev (w.setCell ⟨r, 2, none⟩ (.int .i64 (k : Int))) ev :=
  h.read (Kept1.set (Kept.refl _ w) 2 _) (h.lp.step hk)
theorem PB.deep {w : World} {base r p : Nat} {ev : Value} {nb fb : Nat} {s : ByteArray} {i d : Nat} {l : List Tm} (h : PB w base r p ev nb fb s i d l) (e : Nat) :
    PB (w.setCell ⟨r, 3, none⟩ (.int .u64 (e : Int))) base r p ev nb fb s i e l ∧ Grew (fun k => k = r) p nb fb w ev (w.setCell ⟨r, 3, none⟩ (.int .u64 (e : Int))) ev :=
  h.read (Kept1.set (Kept.refl _ w) 3 _) (h.lp.deep e)

/-- must, told of parser and bank. -/
theorem must_at (w : World) (base r p : Nat) (ev : Value) (nb fb : Nat) (s : ByteArray) (i d : Nat) (l : List Tm) (h : PB w base r p ev nb fb s i d l) (c : Nat) (hst : stands s i c = true) :
    Calls Tryz.prog 112 #[.pointer (some ⟨r, 0, none⟩), .int .u8 (c : Int)] w fun e w' => e = .returned (.tuple #[]) ∧ PB w' base r p ev nb fb s (bl s (i + 1)) d l ∧ Grew (fun k => k = r) p nb fb w ev w' ev :=
  (must_yes w r _ s i d h.lp c hst).mono (by rintro e w' ⟨h1, h2, h3⟩; exact ⟨h1, h.read h3 h2⟩)
theorem must_bad (w : World) (base r p : Nat) (ev : Value) (nb fb : Nat) (s : ByteArray) (i d : Nat) (l : List Tm) (h : PB w base r p ev nb fb s i d l) (c : Nat) (hc : c ≠ 0) (hst : stands s i c = false) :
    Calls Tryz.prog 112 #[.pointer (some ⟨r, 0, none⟩), .int .u8 (c : Int)] w fun e w' => e = .panicked [{ v := grefusalV 2 (i : Int), recovered := false }] ∧ PB w' base r p ev nb fb s i d l ∧ Grew (fun k => k = r) p nb fb w ev w' ev :=
  (must_no w r _ s i d h.lp c hc hst).mono (by rintro e w' ⟨h1, h2⟩; exact ⟨h1, h.kept0 h2⟩)
theorem next_at (w : World) (base r p : Nat) (ev : Value) (nb fb : Nat) (s : ByteArray) (i d : Nat) (l : List Tm) (h : PB w base r p ev nb fb s i d l) :
    Calls Tryz.prog 110 #[.pointer (some ⟨r, 0, none⟩)] w fun e w' => e = .returned (.int .u8 (byt s i : Int)) ∧ PB w' base r p ev nb fb s i d l ∧ Grew (fun k => k = r) p nb fb w ev w' ev :=
  (next_k w r _ s i d h.lp).mono (by rintro e w' ⟨h1, h2⟩; exact ⟨h1, h.kept0 h2⟩)

theorem rowIs_keep {B : Nat} {W W' : World} (K : FKeep B W W') {b n : Nat} {f : Nat → Value} (hb : B ≤ b) (h : W.rowIs b 36 n f) : W'.rowIs b 36 n f := by
  obtain ⟨c, h1, h2⟩ := h
  exact ⟨c, K b c (0, 0) hb h1, h2⟩
/-- A block of Forms is another one than the parser's and the bank's. -/
theorem PB.setForm {w : World} {base r p : Nat} {ev : Value} {nb fb : Nat} {s : ByteArray} {i d : Nat} {l : List Tm} (h : PB w base r p ev nb fb s i d l) {b n : Nat} {f : Nat → Value} (hb : w.rowIs b 36 n f) (o : Nat) (u : Value) : PB (w.setCell ⟨b, o, none⟩ u) base r p ev nb fb s i d l := by
  obtain ⟨c, hc, _⟩ := hb
  have K : Kept1 b w (w.setCell ⟨b, o, none⟩ u) := Kept1.set (Kept.refl _ w) o u
  have n1 : r ≠ b := fun e => rowIs_ne h.lp.row (by decide) c (0, 0) (e ▸ hc)
  exact ⟨h.lp.of_block (K.block r h.lp.row.lt n1), h.bk.kept1 K (fun e => h.bk.noForm (Or.inl rfl) c (0, 0) (e ▸ hc)) (fun e => h.bk.noForm (Or.inr (Or.inl rfl)) c (0, 0) (e ▸ hc)) (fun e => h.bk.noForm (Or.inr (Or.inr (Or.inl rfl))) c (0, 0) (e ▸ hc)) (fun e => h.bk.noForm (Or.inr (Or.inr (Or.inr e))) c (0, 0) hc), h.rp, h.rn, h.rf, h.er, Nat.le_trans h.bs K.size, h.few⟩
theorem Grew.fresh {X : Nat → Prop} {p nb fb : Nat} {a b : World} {ea eb : Value} (h : Grew X p nb fb a ea b eb) {x : Nat} (hx : a.heap.size ≤ x) (o : Nat) (u : Value) : Grew X p nb fb a ea (b.setCell ⟨x, o, none⟩ u) eb := by
  refine ⟨⟨h.kept.os, h.kept.tape, h.kept.output, ?_, fun k hk hs => ?_⟩, h.row⟩
  · have := h.kept.size
    simp [World.setCell]
    exact this
  · rw [Below.heap_setCell _ _ _ _ (by show k ≠ x; omega)]
    exact h.kept.block k hk hs

/-- A Form in a box. -/
def frm (v0 v1 v2 v3 : Value) (j : Nat) : Value := if j = 0 then v0 else if j = 1 then v1 else if j = 2 then v2 else v3
/-- Another Form is put into a box. -/
abbrev put4 (w : World) (b : Nat) (v0 v1 v2 v3 : Value) : World := (((w.setCell ⟨b, 0, none⟩ v0).setCell ⟨b, 1, none⟩ v1).setCell ⟨b, 2, none⟩ v2).setCell ⟨b, 3, none⟩ v3

theorem made_form (w : World) (v0 v1 v2 v3 : Value) : (w.alloc (.cells #[v0, v1, v2, v3] 36)).rowIs w.heap.size 36 4 (frm v0 v1 v2 v3) :=
  World.rowIs.congr (made_row w #[v0, v1, v2, v3] 36) (fun j hj => by
    have hj' : j < 4 := hj
    rcases (by omega : j = 0 ∨ j = 1 ∨ j = 2 ∨ j = 3) with rfl | rfl | rfl | rfl <;> rfl)
theorem put_form {w : World} {b : Nat} {f : Nat → Value} (h : w.rowIs b 36 4 f) (v0 v1 v2 v3 : Value) : (put4 w b v0 v1 v2 v3).rowIs b 36 4 (frm v0 v1 v2 v3) :=
  World.rowIs.congr ((((h.set 0 v0).set 1 v1).set 2 v2).set 3 v3) (fun j hj => by
    rcases (by omega : j = 0 ∨ j = 1 ∨ j = 2 ∨ j = 3) with rfl | rfl | rfl | rfl <;> simp [frm])
theorem put_keep {w : World} {b B : Nat} (hb : b < B) (v0 v1 v2 v3 : Value) : FKeep B w (put4 w b v0 v1 v2 v3) :=
  (((FKeep.setCell w hb 0 v0).trans (FKeep.setCell _ hb 1 v1)).trans (FKeep.setCell _ hb 2 v2)).trans (FKeep.setCell _ hb 3 v3)
theorem PB.put4 {w : World} {base r p : Nat} {ev : Value} {nb fb : Nat} {s : ByteArray} {i d : Nat} {l : List Tm} (h : PB w base r p ev nb fb s i d l) {b : Nat} {f : Nat → Value} (hb : w.rowIs b 36 4 f) (v0 v1 v2 v3 : Value) : PB (put4 w b v0 v1 v2 v3) base r p ev nb fb s i d l :=
  (((h.setForm hb 0 v0).setForm (hb.set 0 v0) 1 v1).setForm ((hb.set 0 v0).set 1 v1) 2 v2).setForm (((hb.set 0 v0).set 1 v1).set 2 v2) 3 v3
theorem Grew.put4 {X : Nat → Prop} {p nb fb : Nat} {a w : World} {ea eb : Value} (h : Grew X p nb fb a ea w eb) {b : Nat} (hb : a.heap.size ≤ b) (v0 v1 v2 v3 : Value) : Grew X p nb fb a ea (put4 w b v0 v1 v2 v3) eb :=
  (((h.fresh hb 0 v0).fresh hb 1 v1).fresh hb 2 v2).fresh hb 3 v3
theorem form_cells {w : World} {b : Nat} {v0 v1 v2 v3 : Value} (h : w.rowIs b 36 4 (frm v0 v1 v2 v3)) : w.cell? ⟨b, 0, none⟩ = some v0 ∧ w.cell? ⟨b, 1, none⟩ = some v1 ∧ w.cell? ⟨b, 2, none⟩ = some v2 ∧ w.cell? ⟨b, 3, none⟩ = some v3 :=
  ⟨h.cell (i := 0) (by omega), h.cell (i := 1) (by omega), h.cell (i := 2) (by omega), h.cell (i := 3) (by omega)⟩

set_option maxRecDepth 100000 in
set_option maxHeartbeats 1000000 in
theorem equality_in (w : World) (base r p : Nat) (ev : Value) (nb fb : Nat) (s : ByteArray) (i d : Nat) (l : List Tm) (h : PB w base r p ev nb fb s i d l) :
    Calls Tryz.prog 233 #[.pointer (some ⟨r, 0, none⟩)] w (FoPost base r p nb fb s d w ev (gEqu s i l)) := by
  have hle := h.lp.le
  have hsm := h.lp.small
  have A1 := fun (o : Obj) => h.kept0 (Kept.alloc (Kept.refl _ w) o)
  have T1 := fun (o : Obj) => lterm_in (w.alloc o) base r p ev nb fb s i d l (A1 o).1
  go_enter Tryz.func233, Tryz.ntmps233
  unfold gEqu
  cases h1 : lTerm s i l with
  | bad c q l1 =>
    rw [h1] at T1
    go_wp2_with (first | (go_at_call 251; refine (T1 _).mono ?_; rintro e w2 ⟨rfl, ev2, k2, P2, G2⟩))
    exact ⟨rfl, rfl, ev2, k2, d, P2, (A1 _).2.trans G2⟩
  | ok a k l1 =>
    rw [h1] at T1
    obtain ⟨hk1, hk2⟩ := lTerm_ok hle h1
    simp only [Res.bind]
    by_cases h33 : byt s k = 33
    · simp only [h33, if_true]
      have d33 : ((byt s k : Int) == 33) = true := by simp; omega
      have hk0 := byt_in h33 (by omega)
      cases hs : stands s (k + 1) 61 with
      | false =>
        rw [if_neg (by simp)]
        go_wp2_with (first | (go_at_call 251; refine (T1 _).mono ?_; clear T1; rintro e w2 ⟨rfl, ev2, P2, G2⟩; have NX := next_at w2 base r p ev2 nb fb s k d l1 P2) | (go_at_call 110; refine NX.mono ?_; rintro e w3 ⟨rfl, P3, G3⟩; have d2 := P3.lp.c2; have f2 := P3.lp.row.frozen 2; have P3' := P3.step (k := k + 1) (by omega); rw [show ((k + 1 : Nat) : Int) = (k : Int) + 1 from by omega] at P3'; have MU := must_bad _ base r p ev2 nb fb s (k + 1) d l1 P3'.1 61 (by omega) hs) | (go_at_call 112; refine MU.mono ?_; rintro e w4 ⟨rfl, P4, G4⟩))
        exact ⟨rfl, by simp [grefusalV], ev2, _, d, P4, ((((A1 _).2.trans G2).trans G3).trans P3'.2).trans G4⟩
      | true =>
        rw [if_pos rfl]
        have hk3 := (of_decide_eq_true hs).1
        have hbl := bl_le (s := s) (i := k + 1 + 1) (by omega)
        cases h2 : lTerm s (bl s (k + 1 + 1)) l1 with
        | bad c q l2 =>
          go_wp2_with (first | (go_at_call 251; refine T2.mono ?_; rintro e w5 ⟨rfl, ev5, k5, P5, G5⟩) | (go_at_call 251; refine (T1 _).mono ?_; clear T1; rintro e w2 ⟨rfl, ev2, P2, G2⟩; have NX := next_at w2 base r p ev2 nb fb s k d l1 P2) | (go_at_call 110; refine NX.mono ?_; rintro e w3 ⟨rfl, P3, G3⟩; have d2 := P3.lp.c2; have f2 := P3.lp.row.frozen 2; have P3' := P3.step (k := k + 1) (by omega); rw [show ((k + 1 : Nat) : Int) = (k : Int) + 1 from by omega] at P3'; have MU := must_at _ base r p ev2 nb fb s (k + 1) d l1 P3'.1 61  hs) | (go_at_call 112; refine MU.mono ?_; rintro e w4 ⟨rfl, P4, G4⟩; have T2 := lterm_in w4 base r p ev2 nb fb s (bl s (k + 1 + 1)) d l1 P4; rw [h2] at T2))
          exact ⟨rfl, rfl, ev5, k5, d, P5, (((((A1 _).2.trans G2).trans G3).trans P3'.2).trans G4).trans G5⟩
        | ok b k2 l2 =>
          go_wp2_with (first | (go_at_call 251; refine T2.mono ?_; rintro e w5 ⟨rfl, ev5, P5, G5⟩; have F5 := rowIs_keep ((((A1 _).1.fkeep G2 w.heap.size).trans (((P2.fkeep G3 w.heap.size).trans (P3.fkeep P3'.2 _)).trans (P3'.1.fkeep G4 _))).trans (P4.fkeep G5 _)) (Nat.le_refl _) (made_form w (.int .i64 0) (.int .i64 0) (.int .i64 0) (.slice none 0 0)); obtain ⟨z0, z1, z2, z3⟩ := form_cells F5; have y0 := World.rowIs.frozen F5 0; have y1 := World.rowIs.frozen F5 1; have y2 := World.rowIs.frozen F5 2; have y3 := World.rowIs.frozen F5 3; have hlt := World.rowIs.lt F5) | (go_at_call 251; refine (T1 _).mono ?_; clear T1; rintro e w2 ⟨rfl, ev2, P2, G2⟩; have NX := next_at w2 base r p ev2 nb fb s k d l1 P2) | (go_at_call 110; refine NX.mono ?_; rintro e w3 ⟨rfl, P3, G3⟩; have d2 := P3.lp.c2; have f2 := P3.lp.row.frozen 2; have P3' := P3.step (k := k + 1) (by omega); rw [show ((k + 1 : Nat) : Int) = (k : Int) + 1 from by omega] at P3'; have MU := must_at _ base r p ev2 nb fb s (k + 1) d l1 P3'.1 61  hs) | (go_at_call 112; refine MU.mono ?_; rintro e w4 ⟨rfl, P4, G4⟩; have T2 := lterm_in w4 base r p ev2 nb fb s (bl s (k + 1 + 1)) d l1 P4; rw [h2] at T2))
          have K6 := P5.kept0 (Kept.alloc (Kept.refl _ w5) (.cells #[.int .i64 0, .int .i64 (a : Int), .int .i64 (b : Int), .slice none 0 0] 36))
          have F6 := rowIs_keep (FKeep.alloc w.heap.size w5 (.cells #[.int .i64 0, .int .i64 (a : Int), .int .i64 (b : Int), .slice none 0 0] 36)) (Nat.le_refl _) F5
          have NG := negation_in (w5.alloc (.cells #[.int .i64 0, .int .i64 (a : Int), .int .i64 (b : Int), .slice none 0 0] 36)) (w.heap.size + 1) _ _ (FVal.eq (w.heap.size + 1) _ (a : Int) (b : Int)) (by simp; omega)
          clear z0 z1 z2 z3 y0 y1 y2 y3 T2 MU NX d2 f2
          go_wp2_with (first | (go_at_call 231; refine NG.mono ?_; rintro e w6 ⟨u, rfl, V6, KK6⟩; obtain ⟨op6, x6, y6, a6, n6, cap6, rfl⟩ := V6.form; have P7 := K6.1.kept0 KK6; have F7 := rowIs_keep (FKeep.kept0 KK6 w.heap.size) (Nat.le_refl _) F6; obtain ⟨z0, z1, z2, z3⟩ := form_cells F7; have t0 := World.rowIs.frozen F7 0; have t1 := World.rowIs.frozen F7 1; have t2 := World.rowIs.frozen F7 2; have t3 := World.rowIs.frozen F7 3))
          have F8 := put_form F7 (.int .i64 op6) (.int .i64 x6) (.int .i64 y6) (.slice a6 n6 cap6)
          have P8 := P7.1.put4 F7 (.int .i64 op6) (.int .i64 x6) (.int .i64 y6) (.slice a6 n6 cap6)
          have V8 := (V6.keep (put_keep (Nat.lt_succ_self w.heap.size) (.int .i64 op6) (.int .i64 x6) (.int .i64 y6) (.slice a6 n6 cap6))).mono (Nat.le_succ _)
          have G8 := (((((((((A1 _).2.trans G2).trans G3).trans P3'.2).trans G4).trans G5).trans K6.2).trans P7.2)).put4 (Nat.le_refl w.heap.size) (.int .i64 op6) (.int .i64 x6) (.int .i64 y6) (.slice a6 n6 cap6)
          clear z0 z1 z2 z3 t0 t1 t2 t3
          obtain ⟨z0, z1, z2, z3⟩ := form_cells F8
          unfold Go.Proofs.YtlehlgipbhfioaaGreat.put4 at F8 P8 V8 G8 z0 z1 z2 z3
          generalize ((((w6).setCell ⟨w.heap.size, 0, none⟩ (.int .i64 op6)).setCell ⟨w.heap.size, 1, none⟩ (.int .i64 x6)).setCell ⟨w.heap.size, 2, none⟩ (.int .i64 y6)).setCell ⟨w.heap.size, 3, none⟩ (.slice a6 n6 cap6) = w8 at P8 V8 G8 z0 z1 z2 z3 ⊢
          refine ⟨rfl, .agg #[.int .i64 op6, .int .i64 x6, .int .i64 y6, .slice a6 n6 cap6], by simp [results, Tryz.results233, go_sem, z0, z1, z2, z3], ?_⟩
          exact ⟨_, rfl, V8, ev5, P8, G8⟩
    · simp only [h33, if_false]
      have d33 : ((byt s k : Int) == 33) = false := by simp; omega
      cases hs : stands s (k) 61 with
      | false =>
        rw [if_neg (by simp)]
        go_wp2_with (first | (go_at_call 251; refine (T1 _).mono ?_; clear T1; rintro e w2 ⟨rfl, ev2, P2, G2⟩; have NX := next_at w2 base r p ev2 nb fb s k d l1 P2) | (go_at_call 110; refine NX.mono ?_; rintro e w3 ⟨rfl, P3, G3⟩; have MU := must_bad w3 base r p ev2 nb fb s k d l1 P3 61 (by omega) hs) | (go_at_call 112; refine MU.mono ?_; rintro e w4 ⟨rfl, P4, G4⟩))
        exact ⟨rfl, by simp [grefusalV], ev2, _, d, P4, (((A1 _).2.trans G2).trans G3).trans G4⟩
      | true =>
        rw [if_pos rfl]
        have hk3 := (of_decide_eq_true hs).1
        have hbl := bl_le (s := s) (i := k + 1) (by omega)
        cases h2 : lTerm s (bl s (k + 1)) l1 with
        | bad c q l2 =>
          go_wp2_with (first | (go_at_call 251; refine T2.mono ?_; rintro e w5 ⟨rfl, ev5, k5, P5, G5⟩) | (go_at_call 251; refine (T1 _).mono ?_; clear T1; rintro e w2 ⟨rfl, ev2, P2, G2⟩; have NX := next_at w2 base r p ev2 nb fb s k d l1 P2) | (go_at_call 110; refine NX.mono ?_; rintro e w3 ⟨rfl, P3, G3⟩; have MU := must_at w3 base r p ev2 nb fb s k d l1 P3 61  hs) | (go_at_call 112; refine MU.mono ?_; rintro e w4 ⟨rfl, P4, G4⟩; have T2 := lterm_in w4 base r p ev2 nb fb s (bl s (k + 1)) d l1 P4; rw [h2] at T2))
          exact ⟨rfl, rfl, ev5, k5, d, P5, ((((A1 _).2.trans G2).trans G3).trans G4).trans G5⟩
        | ok b k2 l2 =>
          go_wp2_with (first | (go_at_call 251; refine T2.mono ?_; rintro e w5 ⟨rfl, ev5, P5, G5⟩; have F5 := rowIs_keep ((((A1 _).1.fkeep G2 w.heap.size).trans ((P2.fkeep G3 w.heap.size).trans (P3.fkeep G4 _))).trans (P4.fkeep G5 _)) (Nat.le_refl _) (made_form w (.int .i64 0) (.int .i64 0) (.int .i64 0) (.slice none 0 0)); obtain ⟨z0, z1, z2, z3⟩ := form_cells F5; have y0 := World.rowIs.frozen F5 0; have y1 := World.rowIs.frozen F5 1; have y2 := World.rowIs.frozen F5 2; have y3 := World.rowIs.frozen F5 3; have hlt := World.rowIs.lt F5) | (go_at_call 251; refine (T1 _).mono ?_; clear T1; rintro e w2 ⟨rfl, ev2, P2, G2⟩; have NX := next_at w2 base r p ev2 nb fb s k d l1 P2) | (go_at_call 110; refine NX.mono ?_; rintro e w3 ⟨rfl, P3, G3⟩; have MU := must_at w3 base r p ev2 nb fb s k d l1 P3 61  hs) | (go_at_call 112; refine MU.mono ?_; rintro e w4 ⟨rfl, P4, G4⟩; have T2 := lterm_in w4 base r p ev2 nb fb s (bl s (k + 1)) d l1 P4; rw [h2] at T2))
          have F6 := put_form F5 (.int .i64 0) (.int .i64 (a : Int)) (.int .i64 (b : Int)) (.slice none 0 0)
          have P6 := P5.put4 F5 (.int .i64 0) (.int .i64 (a : Int)) (.int .i64 (b : Int)) (.slice none 0 0)
          have G6 := (((((A1 _).2.trans G2).trans G3).trans G4).trans G5).put4 (Nat.le_refl w.heap.size) (.int .i64 0) (.int .i64 (a : Int)) (.int .i64 (b : Int)) (.slice none 0 0)
          clear z0 z1 z2 z3 y0 y1 y2 y3 T2 MU NX
          unfold Go.Proofs.YtlehlgipbhfioaaGreat.put4 at F6 P6 G6
          generalize ((((w5).setCell ⟨w.heap.size, 0, none⟩ (.int .i64 0)).setCell ⟨w.heap.size, 1, none⟩ (.int .i64 (a : Int))).setCell ⟨w.heap.size, 2, none⟩ (.int .i64 (b : Int))).setCell ⟨w.heap.size, 3, none⟩ (.slice none 0 0) = w6 at F6 P6 G6 ⊢
          have P7 := P6.kept0 (Kept.alloc (Kept.refl _ w6) (.cells #[.int .i64 0, .int .i64 (a : Int), .int .i64 (b : Int), .slice none 0 0] 36))
          have F7 := rowIs_keep (FKeep.alloc w.heap.size w6 (.cells #[.int .i64 0, .int .i64 (a : Int), .int .i64 (b : Int), .slice none 0 0] 36)) (Nat.le_refl _) F6
          generalize w6.alloc (.cells #[.int .i64 0, .int .i64 (a : Int), .int .i64 (b : Int), .slice none 0 0] 36) = w7 at P7 F7 ⊢
          obtain ⟨z0, z1, z2, z3⟩ := form_cells F7
          refine ⟨rfl, .agg #[.int .i64 0, .int .i64 (a : Int), .int .i64 (b : Int), .slice none 0 0], by simp [results, Tryz.results233, go_sem, z0, z1, z2, z3], ?_⟩
          exact ⟨_, rfl, FVal.eq _ _ _ _, ev5, P7.1, G6.trans P7.2⟩

end Go.Proofs.YtlehlgipbhfioaaGreat

namespace Go.Proofs.YtlehlgipbhfioaaGreat
open Go.RowKit Go.Maps

theorem st_cell {w : World} {st : List (Nat × Obj)} (hs : Sat st w) {b : Nat} {c : Array Value} {t : TypeId} (hm : (b, Obj.cells c t) ∈ st) (j : Nat) : w.cell? ⟨b, j, none⟩ = c[j]? := by
  have := hs _ hm
  simp [World.cell?, this]

/-- A signature becomes unknown again. -/
theorem Cz.drop {w : World} {base : Nat} {l : List Tm} {z : Zs} (h : Cz w base l z) {s : Tm} (hs : Sk s) (ty : TypeId) :
    ∃ w', (Builtin.delete_ #[68, 98] ty #[.map (some z.mb), sigV s]).run Tryz.prog w = .ok (.tuple #[]) w' ∧ Cz w' base l { z with kn := fun u => if u = s then none else z.kn u, ms := z.ms - (if (z.kn s).isSome then 1 else 0) } ∧ Kept1 z.mb w w' := by
  obtain ⟨D, d1, d2, d3⟩ := h.known
  obtain ⟨w', hr, ho, hturn⟩ := World.ownsMap.drop d1 gLaw Tryz.underlying68 (gkey_of hs.ok) ty
  have K : Kept1 z.mb w w' := Kept1.of_grown hturn.grown
  have A := h.apart
  have tidy := World.ownsMap.tidy d1 gLaw
  refine ⟨w', hr, ⟨h.cls.of_block (K.block _ h.cls.lt A.km), h.sets.other K A.pm A.nm (fun k hk e => A.jm (by rw [hk, e])), h.terms.of_block (K.block _ h.terms.lt A.mt.symm), h.uses.of_block (K.block _ h.uses.lt A.um), ⟨_, mapIs_of ho, ?_, ?_⟩,
    ownsRow_blockC h.back (fun k hk => K.block k (h.back.lt k hk).2 (fun e => A.mb (by rw [hk, e]))), fun x hx => (K.block x.1 (h.st_lt hx) (fun e => (h.far x hx).2 (.inr (.inr (.inr (.inl e)))))).trans (h.sat x hx), h.far, h.argsAt, h.usesAt, h.bd, h.oks, h.len, h.bp, h.bt, h.bu, h.bm⟩, K⟩
  · have := size_del (k := gkey s) tidy
    show _ ≤ z.ms - (if (z.kn s).isSome then 1 else 0)
    by_cases e : (z.kn s).isSome = true
    · rw [(d3 s hs).1, e, if_pos rfl] at this
      rw [if_pos e]
      omega
    · rw [if_neg e]
      omega
  · intro u hu
    show Says _ (gkey u) (if u = s then none else z.kn u)
    by_cases e : u = s
    · subst e
      rw [if_pos rfl]
      exact Says.del_same
    · rw [if_neg e]
      exact (d3 u hu).del_other (fun x => e (gkey_inj hu hs x))

set_option maxHeartbeats 1000000 in
set_option maxRecDepth 100000 in
theorem del_in (w : World) (base : Nat) (l : List Tm) (z : Zs) (h : Cz w base l z) (s : Tm) (hs : Sk s) (bc bx : Nat) (hc : (bc, Obj.cells #[.pointer (some ⟨z.pk, 0, none⟩)] 57) ∈ z.st) (hx : (bx, Obj.cells (sigL s).toArray 98) ∈ z.st) :
    Calls Tryz.prog 75 #[.pointer (some ⟨bc, 0, none⟩), .pointer (some ⟨bx, 0, none⟩)] w fun e w' => e = .returned (.tuple #[]) ∧ Cz w' base l { z with kn := fun u => if u = s then none else z.kn u, ms := z.ms - (if (z.kn s).isSome then 1 else 0) } ∧ Kept1 z.mb w w' := by
  have x0 : w.cell? ⟨bc, 0, none⟩ = some (.pointer (some ⟨z.pk, 0, none⟩)) := st_cell h.sat hc 0
  have y0 : w.cell? ⟨bx, 0, none⟩ = some (.string s.name) := st_cell h.sat hx 0
  have y1 : w.cell? ⟨bx, 1, none⟩ = some (.int .i64 (s.arg 0 : Int)) := st_cell h.sat hx 1
  have y2 : w.cell? ⟨bx, 2, none⟩ = some (.int .i64 (s.arg 1 : Int)) := st_cell h.sat hx 2
  have y3 : w.cell? ⟨bx, 3, none⟩ = some (.int .i64 (s.arg 2 : Int)) := st_cell h.sat hx 3
  have y4 : w.cell? ⟨bx, 4, none⟩ = some (.int .i64 (s.arg 3 : Int)) := st_cell h.sat hx 4
  have k3 := h.k3
  obtain ⟨w', hr, H', K'⟩ := h.drew.drop hs 0
  have hV : sigV s = .agg #[.string s.name, .int .i64 (s.arg 0 : Int), .int .i64 (s.arg 1 : Int), .int .i64 (s.arg 2 : Int), .int .i64 (s.arg 3 : Int)] := rfl
  rw [hV] at hr
  clear h hc hx hV
  go_enter Tryz.func75, Tryz.ntmps75
  go_wp2_with fail
  go_region
  all_goals
    go_end0
    exact ⟨rfl, H', (Kept.refl _ w).drew.trans K'⟩

/-- Joins of the Sets are taken back. -/
theorem Cz.undo {w : World} {base : Nat} {l : List Tm} {z : Zs} (h : Cz w base l z) (m : Int) :
    Calls Tryz.prog 74 #[.pointer (some ⟨z.ps, 0, none⟩), .int .i64 m] w fun e w' => e = .returned (.bool (undoes z.t m)) ∧ ∃ jv', jv'.ownBlock = z.jv.ownBlock ∧ Cz w' base l { z with jv := jv', g := Uf.back z.g z.t (undoK z.t m), t := z.t.drop (undoK z.t m) } ∧ Kept (Foot z.ps z.nb z.jv) w w' := by
  refine (Undo_st w base z.ps z.nb z.jv l.length z.g z.t h.sets m).mono ?_
  rintro e w' ⟨he, jv', hS, K, hloc⟩
  have A := h.apart
  obtain ⟨D, d1, d2, d3⟩ := h.known
  refine ⟨he, jv', hloc, ⟨h.cls.of_block (K.block _ h.cls.lt ?_), hS, h.terms.of_block (K.block _ h.terms.lt ?_), h.uses.of_block (K.block _ h.uses.lt ?_), ⟨D, mapIs_block d1 (K.block _ (World.ownsMap.lt d1) ?_), d2, d3⟩, ownsRow_blockC h.back (fun k hk => K.block k (h.back.lt k hk).2 ?_), fun x hx => (K.block x.1 (h.st_lt hx) (fun e => (h.far x hx).2 (.inr (.inl e)))).trans (h.sat x hx), fun x hx => ⟨(h.far x hx).1, fun hk => ?_⟩, h.argsAt, h.usesAt, h.bd, h.oks, h.len, h.bp, h.bt, h.bu, h.bm⟩, K⟩
  · rintro (e | e | e)
    · exact A.kp e
    · exact A.kn e
    · exact A.kj e
  · rintro (e | e | e)
    · exact A.pt e.symm
    · exact A.nt e.symm
    · exact A.jt e
  · rintro (e | e | e)
    · exact A.pu e.symm
    · exact A.nu e.symm
    · exact A.ju e
  · rintro (e | e | e)
    · exact A.pm e.symm
    · exact A.nm e.symm
    · exact A.jm e
  · rintro (e | e | e)
    · exact A.pb (by rw [hk, e])
    · exact A.nb (by rw [hk, e])
    · exact A.jb k e hk
  · refine (h.far x hx).2 ?_
    rcases hk with e | (e | e | e) | e | e | e
    · exact .inl e
    · exact .inr (.inl (.inl e))
    · exact .inr (.inl (.inr (.inl e)))
    · exact .inr (.inl (.inr (.inr (by rw [← hloc]; exact e))))
    · exact .inr (.inr (.inl e))
    · exact .inr (.inr (.inr (.inl e)))
    · exact .inr (.inr (.inr (.inr e)))

set_option maxHeartbeats 1000000 in
set_option maxRecDepth 100000 in
theorem undo_in (w : World) (base : Nat) (l : List Tm) (z : Zs) (h : Cz w base l z) (low mark : Nat) (old : Value) (ys : List Nat) (hlow : low < l.length) (hold : UseIs z.st old ys) (bc bm bo bl : Nat) (hc : (bc, Obj.cells #[.pointer (some ⟨z.pk, 0, none⟩)] 57) ∈ z.st) (hm : (bm, Obj.cells #[.int .i64 (mark : Int)] 3) ∈ z.st) (ho : (bo, Obj.cells #[old] 110) ∈ z.st) (hl : (bl, Obj.cells #[.int .i64 (low : Int)] 3) ∈ z.st) :
    Calls Tryz.prog 73 #[.pointer (some ⟨bc, 0, none⟩), .pointer (some ⟨bm, 0, none⟩), .pointer (some ⟨bo, 0, none⟩), .pointer (some ⟨bl, 0, none⟩)] w fun e w' => e = .returned (.tuple #[]) ∧ ∃ jv', jv'.ownBlock = z.jv.ownBlock ∧ Cz w' base l { z with jv := jv', g := Uf.back z.g z.t (undoK z.t mark), t := z.t.drop (undoK z.t mark), uv := fun i => if i = low then old else z.uv i, us := fun i => if i = low then ys else z.us i } ∧ Kept (fun k => Foot z.ps z.nb z.jv k ∨ k = z.ub) w w' := by
  have x0 : w.cell? ⟨bc, 0, none⟩ = some (.pointer (some ⟨z.pk, 0, none⟩)) := st_cell h.sat hc 0
  have x1 : w.cell? ⟨bm, 0, none⟩ = some (.int .i64 (mark : Int)) := st_cell h.sat hm 0
  have k0 := h.k0
  have UN := fun m => (h.drewN m).undo (mark : Int)
  have hlen := h.len
  go_enter Tryz.func73, Tryz.ntmps73
  go_wp2_with fail
  go_cut [9] from 4 to 9 (fun v wx => v = .bool (undoes z.t mark) ∧ ∃ jv', jv'.ownBlock = z.jv.ownBlock ∧ Cz wx base l { z with jv := jv', g := Uf.back z.g z.t (undoK z.t mark), t := z.t.drop (undoK z.t mark) } ∧ Kept (Foot z.ps z.nb z.jv) w wx)
  case first =>
    go_region_with (go_at_call 74; refine (UN 1).mono ?_; rintro e w2 ⟨rfl, jv', hj, H2, K2⟩)
    all_goals
      go_wp2_with fail
      go_meet
      case rel =>
        have K2' : Kept (Foot z.ps z.nb z.jv) (w.drewN 1) w2 := K2
        exact ⟨rfl, jv', hj, H2, ((Kept.refl _ w).drewN 1).trans K2'⟩
  case rest =>
    obtain ⟨rfl, jv', hj, H2, K2⟩ := hcut
    obtain ⟨oa, oc, hof⟩ := hold.form
    subst hof
    have y0 : wc.cell? ⟨bc, 0, none⟩ = some (.pointer (some ⟨z.pk, 0, none⟩)) := st_cell H2.sat hc 0
    have y1 : wc.cell? ⟨bl, 0, none⟩ = some (.int .i64 (low : Int)) := st_cell H2.sat hl 0
    have y2 : wc.cell? ⟨bo, 0, none⟩ = some (.slice oa ys.length oc) := st_cell H2.sat ho 0
    have k2 : wc.cell? ⟨z.pk, 2, none⟩ = some (.slice (some ⟨z.ub, 0, none⟩) l.length l.length) := H2.k2
    have ul := H2.u hlow
    have fu := H2.uses.frozen low
    have H3 := (H2.setUse low (.slice oa ys.length oc) ys hold).1
    have K3 := Kept.setCell (S := fun k => Foot z.ps z.nb z.jv k ∨ k = z.ub) (p := ⟨z.ub, low, none⟩) (Kept.mono K2 (fun _ _ e => .inl e)) (.inr rfl) (.slice oa ys.length oc)
    clear UN x0 x1 k0 h hc hm ho hl hold
    go_wp2_with fail
    go_region
    all_goals
      go_end0
      exact ⟨rfl, jv', hj, H3.drew, K3.drew⟩

end Go.Proofs.YtlehlgipbhfioaaGreat

namespace Go.Proofs.YtlehlgipbhfioaaGreat
open Go.RowKit Go.Shelf

attribute [local go_sem] Oper.semAt_some

/-- What a walk through a formula relies on. -/
def WTy (t : TypeId) : Prop := t = 335 ∨ t = 36 ∨ t = 161 ∨ t = 243 ∨ t = 241
def encS (x : Lf × Nat) : Array Value := #[.pointer (some ⟨x.1.b, x.1.o, none⟩), .int .i64 (x.2 : Int)]
def stepC (ws : List (Lf × Nat)) : List Value := ws.flatMap fun x => [.pointer (some ⟨x.1.b, x.1.o, none⟩), .int .i64 (x.2 : Int)]

set_option maxHeartbeats 1000000 in
theorem steps_in (w : World) (a : Option Addr) :
    Calls Tryz.prog 196 #[.pointer a] w fun e w' => e = .returned (.func (.func 234) #[] #[.pointer (some ⟨w.heap.size, 0, none⟩)]) ∧ w' = w.alloc (.cells #[.pointer a] 161) := by
  go_enter Tryz.func196, Tryz.ntmps196
  go_wp2
  go_ret
  exact ⟨rfl, rfl⟩

theorem stepC_len (ws : List (Lf × Nat)) : (stepC ws).length = ws.length * 2 := by
  induction ws with
  | nil => rfl
  | cons x ws ih => simp [stepC] at ih ⊢; omega
theorem stepC_app (a b : List (Lf × Nat)) : stepC (a ++ b) = stepC a ++ stepC b := by simp [stepC]

theorem Kr.fkeep {B : Nat} {W W' : World} (K : Kr WTy B W W') : FKeep 0 W W' := fun k c fz _ h => K.same k _ h (Or.inr ⟨c, 36, fz, rfl, Or.inr (Or.inl rfl)⟩)
theorem Kr.row {B : Nat} {W W' : World} (K : Kr WTy B W W') {base size k : Nat} {v : Value} {xs : List Value} (h : W.ownsRow base 335 size v k xs) : W'.ownsRow base 335 size v k xs := by
  refine ⟨h.1, ?_⟩
  rcases h.2 with e | ⟨g, cap, cur, e, e1, e2, e3⟩
  · exact Or.inl e
  · exact Or.inr ⟨g, cap, cur, e, e1, K.same g _ e2 (Or.inr ⟨cur, _, _, rfl, Or.inl rfl⟩), e3⟩
theorem Ow.grownBy {ty : TypeId} {B : Nat} {W W' : World} {row : Option Nat} (hg : W.grownBy W' row) (hr : ∀ r, row = some r → B ≤ r ∧ ∃ c fz, W.heap[r]? = some (Obj.cells c ty fz)) : Ow ty B W W' := by
  refine ⟨hg.os, hg.tape, hg.output, hg.size, fun k o hk ho => ?_⟩
  refine (hg.block k (Array.getElem?_eq_some_iff.1 hk).1 (fun e => ?_)).trans hk
  obtain ⟨h1, c, fz, h2⟩ := hr k e.symm
  rcases ho with ho | ho
  · omega
  · rw [hk] at h2
    cases h2
    exact ho.2 ⟨c, ty, fz, rfl, rfl⟩
theorem Ow.drewN {ty : TypeId} {B : Nat} (W : World) (m : Nat) : Ow ty B W (W.drewN m) := ⟨rfl, rfl, rfl, Nat.le_refl _, fun _ _ h _ => h⟩
theorem Ow.setCell {ty : TypeId} {B : Nat} (W : World) {g : Nat} (hB : B ≤ g) {c : Array Value} {fz : Nat × Nat} (hg : W.heap[g]? = some (Obj.cells c ty fz)) (o : Nat) (u : Value) : Ow ty B W (W.setCell ⟨g, o, none⟩ u) :=
  Ow.grownBy (row := some g) ⟨rfl, rfl, rfl, by simp [World.setCell], fun k _ hne => Below.heap_setCell W ⟨g, o, none⟩ u k (fun e => hne (by rw [show k = g from e]))⟩ (fun r e => by cases e; exact ⟨hB, c, fz, hg⟩)

theorem kids_form {W : World} {t : Lf} (h : Here W t) : ∃ a cap, (if t.op = 0 then Value.slice none 0 0 else t.kv) = .slice a t.ks.length cap := by
  obtain ⟨a, cap, hkv, _⟩ := h.kidsIn
  unfold Lf.ks
  by_cases h0 : t.op = 0
  · simp [h0]
  · simp [h0, hkv]

/-- There are as many steps as Kids, at least. -/
theorem wk_len {t : Lf} {d m : Nat} (hm : m < t.ks.length) (hd : d ≤ m) : m - d + 2 ≤ (wk t d).length := by
  obtain ⟨k, hk⟩ : ∃ k, t.ks[d]? = some k := ⟨_, List.getElem?_eq_getElem (by omega)⟩
  rw [wk_step hk]
  by_cases he : d = m
  · have : 1 ≤ (wk t (d + 1)).length := by rw [wk]; simp
    simp
    omega
  · have := wk_len (t := t) (d := d + 1) hm (by omega)
    simp
    omega
termination_by t.ks.length - d
decreasing_by omega

theorem wk_kid {t k : Lf} {d m : Nat} (hm : t.ks[m]? = some k) (hd : d ≤ m) : (wk k 0).length + 1 ≤ (wk t d).length := by
  have hlt := (List.getElem?_eq_some_iff.1 hm).1
  by_cases he : d = m
  · subst he
    rw [wk_step hm]
    simp
  · obtain ⟨k', hk'⟩ : ∃ k', t.ks[d]? = some k' := ⟨_, List.getElem?_eq_getElem (by omega)⟩
    have := wk_kid (d := d + 1) hm (by omega)
    rw [wk_step hk']
    simp
    omega
termination_by t.ks.length - d
decreasing_by omega
theorem infoStep : (Tryz.prog.info? 335).map (fun i => (i.zero, i.size, i.bytes)) = some (some (.agg #[.pointer none, .int .i64 0]), 2, 16) := by kernel_rfl
theorem cell_twos (w : World) (x y : Value) (t : TypeId) : ∀ j u, [x, y][j]? = some u → (w.alloc (.cells #[x, y] t)).cell? ((⟨w.heap.size, 0, none⟩ : Addr).add j) = some u := by
  intro j u hj
  have R := made_row w #[x, y] t
  match j, hj with
  | 0, hj => simp at hj; rw [← hj]; exact R.cell (i := 0) (by simp)
  | 1, hj => simp at hj; rw [← hj]; exact R.cell (i := 1) (by simp)
theorem kid_at {W : World} {t k : Lf} {d : Nat} (h : Here W t) (hk : t.ks[d]? = some k) : ∃ kb ko kl cap, t.kv = .slice (some ⟨kb, ko, none⟩) kl cap ∧ d < kl ∧ k.b = kb ∧ k.o = ko + d * 4 ∧ k ∈ t.kids := by
  unfold Lf.ks at hk
  split at hk
  · simp at hk
  · obtain ⟨a, cap, hkv, _, hh⟩ := h.kidsIn
    have hlt := (List.getElem?_eq_some_iff.1 hk).1
    rcases hh with hh | ⟨kb, ko, ha, hh⟩
    · rw [hh] at hk; simp at hk
    · obtain ⟨h1, h2⟩ := hh d k hk
      exact ⟨kb, ko, t.kids.length, cap, by rw [hkv, ha], hlt, h1, h2, List.mem_of_getElem? hk⟩

/-- The way down lies in memory. -/
structure Wy (W : World) (B : Nat) (t : Lf) (v : Value) (ws : List (Lf × Nat)) : Prop where
  row : W.ownsRow B 335 2 v ws.length (stepC ws)
  here : ∀ x ∈ ws, Here W x.1 ∧ x.2 ≤ x.1.ks.length
  deep : ∀ (i : Nat) (x : Lf × Nat), ws[i]? = some x → (wk x.1 0).length + i ≤ (wk t 0).length

theorem Wy.kr {W W' : World} {B C : Nat} {t : Lf} {v : Value} {ws : List (Lf × Nat)} (h : Wy W B t v ws) (K : Kr WTy C W W') : Wy W' B t v ws :=
  ⟨K.row h.row, fun x hx => ⟨(h.here x hx).1.keep (K.fkeep.toA _), (h.here x hx).2⟩, h.deep⟩

theorem Wy.last {W : World} {B : Nat} {t : Lf} {v : Value} {rest : List (Lf × Nat)} {p : Lf × Nat} (h : Wy W B t v (rest ++ [p])) :
    ∃ g cap, v = .slice (some ⟨g, 0, none⟩) (rest.length + 1) cap ∧ rest.length + 1 ≤ cap ∧ B ≤ g ∧ (∃ c, W.heap[g]? = some (Obj.cells c 335 (0, 0))) ∧ W.cell? ⟨g, rest.length * 2, none⟩ = some (.pointer (some ⟨p.1.b, p.1.o, none⟩)) ∧ W.cell? ⟨g, rest.length * 2 + 1, none⟩ = some (.int .i64 (p.2 : Int)) ∧ Wy W B t (.slice (some ⟨g, 0, none⟩) rest.length cap) rest := by
  have hr := h.row
  rw [List.length_append, List.length_singleton, stepC_app] at hr
  obtain ⟨g, cap, hv⟩ := ownsRow_succ hr
  subst hv
  have hcap : rest.length + 1 ≤ cap ∧ B ≤ g ∧ ∃ c, W.heap[g]? = some (Obj.cells c 335 (0, 0)) := by
    rcases hr.2 with ⟨e, _⟩ | ⟨g', cap', cur, e, hg1, hg2, hnc, _⟩
    · cases e
    · cases e; exact ⟨hnc, hg1, cur, hg2⟩
  have c0 := hr.cellAt (rest.length * 2) (by omega)
  have c1 := hr.cellAt (rest.length * 2 + 1) (by omega)
  rw [List.getElem?_append_right (by rw [stepC_len]; omega), stepC_len] at c0 c1
  refine ⟨g, cap, rfl, hcap.1, hcap.2.1, hcap.2.2, by simpa [stepC] using c0, by simpa [stepC] using c1, ⟨ownsRow_pop (stepC_len rest) hr, fun x hx => h.here x (List.mem_append_left _ hx), fun i x hi => h.deep i x ?_⟩⟩
  rw [List.getElem?_append_left (List.getElem?_eq_some_iff.1 hi).1]
  exact hi

theorem Wy.at {W : World} {B : Nat} {t : Lf} {g cap : Nat} {rest : List (Lf × Nat)} {p : Lf × Nat} (h : Wy W B t (.slice (some ⟨g, 0, none⟩) (rest.length + 1) cap) (rest ++ [p])) :
    B ≤ g ∧ (∃ c, W.heap[g]? = some (Obj.cells c 335 (0, 0))) ∧ W.cell? ⟨g, rest.length * 2, none⟩ = some (.pointer (some ⟨p.1.b, p.1.o, none⟩)) ∧ W.cell? ⟨g, rest.length * 2 + 1, none⟩ = some (.int .i64 (p.2 : Int)) ∧ Wy W B t (.slice (some ⟨g, 0, none⟩) rest.length cap) rest := by
  obtain ⟨g', cap', hv, _, h1, h2, h3, h4, h5⟩ := h.last
  have hv2 : g = g' ∧ cap = cap' := by simpa using hv
  obtain ⟨rfl, rfl⟩ := hv2
  exact ⟨h1, h2, h3, h4, h5⟩
theorem frozen_of {W : World} {g : Nat} {c : Array Value} {ty : TypeId} (h : W.heap[g]? = some (Obj.cells c ty (0, 0))) (o : Nat) : W.frozen? ⟨g, o, none⟩ = false := by
  simp [World.frozen?, h]

/-- One more of its Kids is done. -/
theorem Wy.done {W : World} {B : Nat} {t : Lf} {g cap : Nat} {rest : List (Lf × Nat)} {p : Lf × Nat} (h : Wy W B t (.slice (some ⟨g, 0, none⟩) (rest.length + 1) cap) (rest ++ [p])) (hd : p.2 < p.1.ks.length) :
    Wy (W.setCell ⟨g, rest.length * 2 + 1, none⟩ (.int .i64 ((p.2 : Int) + 1))) B t (.slice (some ⟨g, 0, none⟩) (rest.length + 1) cap) (rest ++ [(p.1, p.2 + 1)]) := by
  have hr := h.row
  rw [List.length_append, List.length_singleton] at hr
  have hs := (hr.stored (rest.length * 2 + 1) (.int .i64 ((p.2 : Int) + 1))).1
  obtain ⟨_, ⟨c, hc⟩, _, _, _⟩ := h.at
  refine ⟨?_, ?_, ?_⟩
  · rw [List.length_append, List.length_singleton]
    have e : (stepC (rest ++ [p])).set (rest.length * 2 + 1) (.int .i64 ((p.2 : Int) + 1)) = stepC (rest ++ [(p.1, p.2 + 1)]) := by
      rw [stepC_app, stepC_app, List.set_append_right _ _ (by rw [stepC_len]; omega), stepC_len]
      have : rest.length * 2 + 1 - rest.length * 2 = 1 := by omega
      rw [this]
      simp [stepC]
    rw [← e]
    exact hs
  · intro x hx
    have K : FKeepA (fun _ => True) W (W.setCell ⟨g, rest.length * 2 + 1, none⟩ (.int .i64 ((p.2 : Int) + 1))) := fun k cc fz _ hk => (Below.heap_setCell W _ _ k (fun e => by
      have e' : k = g := e
      rw [e', hc] at hk
      simp at hk)).trans hk
    rcases List.mem_append.1 hx with hx | hx
    · exact ⟨(h.here x (List.mem_append_left _ hx)).1.keep K, (h.here x (List.mem_append_left _ hx)).2⟩
    · obtain rfl := List.mem_singleton.1 hx
      exact ⟨(h.here p (by simp)).1.keep K, hd⟩
  · intro i x hi
    by_cases hlt : i < rest.length
    · rw [List.getElem?_append_left hlt] at hi
      exact h.deep i x (by rw [List.getElem?_append_left hlt]; exact hi)
    · rw [List.getElem?_append_right (by omega)] at hi
      have : i - rest.length = 0 := by
        have := (List.getElem?_eq_some_iff.1 hi).1
        simp at this; omega
      rw [this] at hi
      simp at hi
      rw [← hi]
      have := h.deep rest.length p (by simp)
      have e : i = rest.length := by omega
      rw [e]
      exact this

set_option maxRecDepth 100000 in
set_option maxHeartbeats 2000000 in
theorem steps1_in (n : Nat) (hn : 1 ≤ n) (Bf : Nat) (t : Lf) (w0 : World) (hb : w0.rowIs Bf 161 1 (fun _ => .pointer (some ⟨t.b, t.o, none⟩))) (ht : Here w0 t) (hN : (wk t 0).length * 16 ≤ 140737488355328) :
    SeqT n Tryz.prog WTy 335 234 #[.pointer (some ⟨Bf, 0, none⟩)] encS (wk t 0) w0 := by
  intro l J W hW hJ hY h0
  have hbW := (hW.cell (p := ⟨Bf, 0, none⟩) hb.lt).trans (hb.cell (i := 0) (by omega))
  refine callsIn_of_wp Tryz.func234 rfl trivial ?_ rfl
  simp only [Tryz.ntmps234, List.size_toArray, List.length_cons, List.length_nil, Nat.reduceAdd, Nat.reduceSub, Array.replicate_succ, Array.replicate_zero, List.push_toArray, List.append_toArray, List.nil_append, List.cons_append]
  gi_wp2
  have h1 := hJ 0 W _ h0 (Ow.alloc W (.cells #[.pointer (some ⟨t.b, t.o, none⟩), .int .i64 0] 335))
  have hs1 : W.heap.size ≤ (W.alloc (.cells #[.pointer (some ⟨t.b, t.o, none⟩), .int .i64 0] 335)).heap.size := by simp
  have Y1 : Wy (W.alloc (.cells #[.pointer (some ⟨t.b, t.o, none⟩), .int .i64 0] 335)) W.heap.size t (.slice (some ⟨W.heap.size, 0, none⟩) 1 1) [(t, 0)] := by
    refine ⟨World.ownsRow_lit _ #[.pointer (some ⟨t.b, t.o, none⟩), .int .i64 0] 1 (Nat.le_refl _) (by decide) rfl, ?_, ?_⟩
    · intro x hx
      obtain rfl := List.mem_singleton.1 hx
      refine ⟨(ht.keep ?_).keep ((FKeep.alloc 0 W _).toA _), Nat.zero_le _⟩
      exact fun k c fz _ hk => (hW.block k (Array.getElem?_eq_some_iff.1 hk).1).trans hk
    · intro i x hi
      match i, hi with
      | 0, hi => simp at hi; rw [← hi]; exact Nat.le_refl _
  generalize W.alloc (.cells #[.pointer (some ⟨t.b, t.o, none⟩), .int .i64 0] 335) = w1 at h1 Y1 hs1 ⊢
  refine wpIn_wide.2 ?_
  go_loopg [3] ((wk t 0).length) (fun k v W' => ∃ (ws : List (Lf × Nat)) (i : Nat), Hid (i + k = (wk t 0).length ∧ k = (rem ws.reverse).length ∧ (wk t 0).drop i = rem ws.reverse) ∧ Wy W' W.heap.size t v ws ∧ Hid (J i W') ∧ Hid (W.heap.size ≤ W'.heap.size))
  case atStart => exact ⟨[(t, 0)], 0, ⟨by omega, by simp [rem], by simp [rem]⟩, Y1, h1, hs1⟩
  case round =>
    clear h1 Y1 hs1 h0 hbW
    obtain ⟨ws, i, hk, Y, hJi, hsz⟩ := hrel
    rcases List.eq_nil_or_concat ws with rfl | ⟨rest, p, rfl⟩
    · obtain ⟨va, vc, hv⟩ := row_form Y.row
      subst hv
      go_wp2_with fail
      go_end0
      obtain ⟨e1, e2, e3⟩ := hk.out
      have e4 : i = (wk t 0).length := by simp [rem] at e2; omega
      exact ⟨⟨_, rfl⟩, e4 ▸ hJi.out⟩
    · rw [List.concat_eq_append] at hk Y
      obtain ⟨g, cap, hv, hcap, hgB, hgc, c0, c1, Y2⟩ := Y.last
      subst hv
      have hrl : rest.length ≤ 8796093022208 := by
        have h1 := Y.deep rest.length p (by simp)
        omega
      have dk : decide ((0 : Int) < (rest.length : Int) + 1) = true := decide_eq_true (by omega)
      have dk' : (0 : Int) < (rest.length : Int) + 1 := by omega
      go_wp2_with fail
      go_quiet (fail)
      have Y3 : Wy (wr.drewN nq) W.heap.size t (.slice (some ⟨g, 0, none⟩) (rest.length + 1) cap) (rest ++ [p]) := by
        have := Y.kr (C := 0) (W' := wr.drewN nq) ⟨Nat.le_refl _, fun _ _ h _ => h⟩
        exact this
      have J3 : Hid (J i (wr.drewN nq)) := hJ i _ _ hJi.out (Ow.drewN wr nq)
      have hz3 : Hid (W.heap.size ≤ (wr.drewN nq).heap.size) := hsz
      clear Y Y2 hJi hsz c0 c1 hgc
      generalize wr.drewN nq = w3 at *
      obtain ⟨e1, e2, e3⟩ := hk.out
      have hi : (wk t 0)[i]? = some p := by
        have h1 : (wk t 0)[i]? = ((wk t 0).drop i)[0]? := by simp
        rw [h1, e3]
        simp only [rem, List.reverse_append, List.reverse_cons, List.reverse_nil, List.nil_append, List.singleton_append, List.flatMap_cons]
        rw [wk]
        rfl
      obtain ⟨fn, tmps, assign, body, hy, hR⟩ := hY i p w3 hi J3.out
      unfold encS at hy
      dsimp only [Exit.then]
      apply_assumption
      refine (wpIn_wide (n := n)).1 ?_
      have hks := (Y3.here p (by simp)).2
      gi_wp2
      refine hR.mono ?_
      rintro e w4 ⟨rfl, hJ4, hK4⟩
      have Y4 := Y3.kr hK4
      have hz4 : Hid (W.heap.size ≤ w4.heap.size) := Nat.le_trans hz3.out hK4.size
      obtain ⟨ka, kc, hkf⟩ := kids_form (Y4.here p (by simp)).1
      have KD := callsIn_wide (n := n - 1) |>.2 (kids_in w4 p.1 (Y4.here p (by simp)).1)
      rw [hkf] at KD
      clear hR hy Y3 J3 hz3 hK4
      by_cases hend : p.2 = p.1.ks.length
      · have dE : ((p.2 : Int) == (p.1.ks.length : Int)) = true := by simp; omega
        have dE' : (p.2 : Int) = (p.1.ks.length : Int) := by omega
        obtain ⟨_, _, _, _, Y5⟩ := Y4.at
        have hrem : Hid (rem (rest ++ [p]).reverse = p :: rem rest.reverse) := by
          show rem _ = _
          simp only [rem, List.reverse_append, List.reverse_cons, List.reverse_nil, List.nil_append, List.singleton_append, List.flatMap_cons]
          rw [wk_end (List.getElem?_eq_none (by omega))]
          rfl
        clear hend
        gi_wp2_with (first | (refine ⟨trivial, ?_⟩; gi_at_call 156; refine KD.mono ?_; rintro e w5 ⟨rfl, rfl⟩))
        go_roundg (rem rest.reverse).length
        case measure => rw [e2, hrem.out]; simp
        case rel =>
          refine ⟨rest, i + 1, ⟨?_, rfl, ?_⟩, Y5, hJ4, hz4⟩
          · rw [hrem.out] at e2
            simp at e2
            omega
          · rw [← List.drop_drop, e3, hrem.out]
            rfl
      · have dE : ((p.2 : Int) == (p.1.ks.length : Int)) = false := by simp; omega
        have dE' : ¬ (p.2 : Int) = (p.1.ks.length : Int) := by omega
        have hlt : p.2 < p.1.ks.length := by omega
        obtain ⟨hgB4, ⟨gc, hgc4⟩, q0, q1, _⟩ := Y4.at
        have fz4 := frozen_of hgc4 (rest.length * 2 + 1)
        have hwp : p.2 ≤ 8796093022208 := by
          have h1 := Y4.deep rest.length p (by simp)
          have h2 := wk_len (t := p.1) (d := 0) hlt (Nat.zero_le _)
          omega
        have Y5 := Y4.done hlt
        have J5 := hJ (i + 1) _ _ hJ4 (Ow.setCell w4 hgB4 hgc4 (rest.length * 2 + 1) (.int .i64 ((p.2 : Int) + 1)))
        obtain ⟨kid, hkid⟩ : ∃ k, p.1.ks[p.2]? = some k := ⟨_, List.getElem?_eq_getElem hlt⟩
        obtain ⟨kb, ko, kl, kcap, hkv, hkl, hkb, hko, hmem⟩ := kid_at (Y4.here p (by simp)).1 hkid
        have c3 := (Y4.here p (by simp)).1.cells.c3
        rw [hkv] at c3
        have hne : ¬ p.1.b = g := by
          obtain ⟨c, fz, hc, _⟩ := (Y4.here p (by simp)).1.cells
          rintro rfl
          rw [hgc4] at hc
          simp at hc
        obtain ⟨i0, hi0, hz0, hz1, hz2⟩ := info_parts infoStep
        have hkl' : (p.2 : Int) < (kl : Int) := by omega
        have h6 : W.heap.size ≤ (w4.setCell ⟨g, rest.length * 2 + 1, none⟩ (.int .i64 ((p.2 : Int) + 1))).heap.size := by simp [World.setCell]; exact hz4.out
        have hr6 := Y5.row
        rw [List.length_append, List.length_singleton] at hr6
        have HY5 : Hid (_ ∧ _) := And.intro Y5 J5
        have hzs : (w4.setCell ⟨g, rest.length * 2 + 1, none⟩ (.int .i64 ((p.2 : Int) + 1))).heap.size = w4.heap.size := by simp [World.setCell]
        have TW := cell_twos (w4.setCell ⟨g, rest.length * 2 + 1, none⟩ (.int .i64 ((p.2 : Int) + 1))) (.pointer (some ⟨kb, ko + p.2 * 4, none⟩)) (.int .i64 0) 335
        rw [hzs] at TW
        clear hzs
        have hdl : (rest.length + 1 + 1) * 16 ≤ 140737488355328 := by
          have h1 := Y4.deep rest.length p (by simp)
          have h2 := wk_len (t := p.1) (d := 0) hlt (Nat.zero_le _)
          omega
        clear Y4 Y5 J5 hJ4 hY
        gi_wp2_with (first | (refine ⟨trivial, ?_⟩; gi_at_call 156; refine KD.mono ?_; rintro e w5 ⟨rfl, rfl⟩) | (gi_at_builtin; refine Aside.out ?_))
        delta Aside
        refine wpListIn_append_own _ rfl _ _ 336 rfl W.heap.size 335 i0 _ 2 16 Tryz.underlying336 hi0 hz0 hz1 hz2 rfl (by decide) _ _ _ rfl (hr6.alloc _) ⟨_, 0, none⟩ 1 1 [.pointer (some ⟨kb, ko + p.2 * 4, none⟩), .int .i64 0] rfl rfl TW (by simp [Value.oneCell']) (by unfold maxLen; omega) (by omega) (Nat.le_trans h6 (by simp)) ?_
        intro v' w7 hown7 hgrow7 _
        replace hgrow7 : World.grownBy _ w7 (some g) := hgrow7
        obtain ⟨g7, cap7, rfl⟩ := ownsRow_succ hown7
        gi_wp2
        obtain ⟨Y5, J5⟩ := HY5.out
        obtain ⟨_, ⟨gc6, hgc6⟩, _, _, _⟩ := Wy.at (rest := rest) (p := (p.1, p.2 + 1)) (by simpa using Y5)
        have hOw : Ow 335 W.heap.size _ w7 := Ow.grownBy hgrow7 (fun r e => by
          have : r = g := by simpa using e.symm
          subst this
          exact ⟨hgB4, gc6, (0, 0), (Below.heap_alloc _ _ _ (Array.getElem?_eq_some_iff.1 hgc6).1).trans hgc6⟩)
        have J7 := hJ (i + 1) _ _ (hJ (i + 1) _ _ J5 (Ow.alloc _ _)) hOw
        have K7 : FKeepA (fun _ => True) _ w7 := ((FKeep.alloc 0 _ _).toA (fun _ => True)).trans (fun k c fz _ hk => hOw.same k _ hk (Or.inr ⟨rfl, by rintro ⟨c', ty', fz', e, e'⟩; cases e; cases e'⟩))
        have hrem : rem (rest ++ [p]).reverse = p :: rem (rest ++ [(p.1, p.2 + 1)] ++ [(kid, 0)]).reverse := by
          simp only [rem, List.reverse_append, List.reverse_cons, List.reverse_nil, List.nil_append, List.flatMap_cons, List.cons_append]
          rw [wk_step hkid]
          simp
        have Y7 : Wy w7 W.heap.size t (.slice (some ⟨g7, 0, none⟩) (rest.length + 1 + 1) cap7) (rest ++ [(p.1, p.2 + 1)] ++ [(kid, 0)]) := by
          refine ⟨?_, ?_, ?_⟩
          · rw [List.length_append, List.length_append, List.length_singleton, List.length_singleton, stepC_app (rest ++ [(p.1, p.2 + 1)]) [(kid, 0)]]
            have e : stepC [(kid, 0)] = [.pointer (some ⟨kb, ko + p.2 * 4, none⟩), .int .i64 0] := by simp [stepC, hkb, hko]
            rw [e]
            exact hown7
          · intro x hx
            rcases List.mem_append.1 hx with hx | hx
            · exact ⟨(Y5.here x hx).1.keep K7, (Y5.here x hx).2⟩
            · obtain rfl := List.mem_singleton.1 hx
              exact ⟨Here.kid (t := p.1) ((Y5.here (p.1, p.2 + 1) (by simp)).1.keep K7) hmem, Nat.zero_le _⟩
          · intro j x hj
            by_cases hl : j < rest.length + 1
            · rw [List.getElem?_append_left (by simpa using hl)] at hj
              exact Y5.deep j x hj
            · rw [List.getElem?_append_right (by simp; omega)] at hj
              have : j - (rest ++ [(p.1, p.2 + 1)]).length = 0 := by
                have := (List.getElem?_eq_some_iff.1 hj).1
                simp at this ⊢; omega
              rw [this] at hj
              simp at hj
              have h1 := Y5.deep rest.length (p.1, p.2 + 1) (by simp)
              have h2 := wk_kid hkid (Nat.zero_le p.2)
              simp at this
              rw [← hj]
              simp at h1 ⊢
              omega
        go_roundg (rem (rest ++ [(p.1, p.2 + 1)] ++ [(kid, 0)]).reverse).length
        case measure => rw [e2, hrem]; simp
        case rel =>
          refine ⟨rest ++ [(p.1, p.2 + 1)] ++ [(kid, 0)], i + 1, ⟨?_, rfl, ?_⟩, Y7, J7, ?_⟩
          · rw [hrem] at e2
            simp only [List.length_cons] at e2
            omega
          · rw [← List.drop_drop, e3, hrem]
            rfl
          · have := hOw.size
            have h8 : (w5.setCell ⟨g, rest.length * 2 + 1, none⟩ (.int .i64 ((p.2 : Int) + 1))).heap.size ≤ w7.heap.size := Nat.le_trans (by simp) this
            exact Nat.le_trans h6 h8

end Go.Proofs.YtlehlgipbhfioaaGreat

namespace Go.Proofs.YtlehlgipbhfioaaGreat
open Go.RowKit Go.Shelf

attribute [local go_sem] Oper.semAt_some

set_option maxHeartbeats 1000000 in
theorem kBw_in (F : Fence) (n : Nat) (h5 : F.fn 255) (hro : F.round = none) (a : Option Addr) (len cap : Nat) (w : World) :
    CallsIn F n Tryz.prog 255 #[.slice a len cap] w fun e w' => e = .returned (.func (.func 258) #[] #[.pointer (some ⟨w.heap.size, 0, none⟩)]) ∧ w' = w.alloc (.cells #[.slice a len cap] 69) := by
  refine callsIn_of_wp Tryz.func255 rfl h5 ?_ hro
  simp only [Tryz.ntmps255, List.size_toArray, List.length_cons, List.length_nil, Nat.reduceAdd, Nat.reduceSub, Array.replicate_succ, Array.replicate_zero, List.push_toArray, List.append_toArray, List.nil_append, List.cons_append]
  gi_wp2
  go_ret
  exact ⟨rfl, rfl⟩

/-- What a round keeps: what lay below n₀, but for the nodes. -/
abbrev KeptS (S : Nat → Prop) (n₀ : Nat) (w w' : World) : Prop := Kept (fun k => S k ∨ n₀ ≤ k) w w'

def encK (fs : Nat → Value) (x : Nat) : Array Value := #[.int .i64 (x : Int), fs x]

set_option maxRecDepth 100000 in
set_option maxHeartbeats 2000000 in
theorem kBack1_in (F : Fence) (n : Nat) (h7 : F.fn 258) (hro : F.round = none) (hn : 1 ≤ n) (l Bs n₀ : Nat) (S : Nat → Prop) (b off len cap : Nat) (fs : Nat → Value) (hfs : ∀ j, j < len → ∃ fn ca, fs j = .func fn #[] ca) (hreach : len ≤ 100000) (hb : b < n₀) (hB : Bs < n₀) (hbn : ¬ S b) (hBn : ¬ S Bs) (J Jx : List { i : Nat // i < len } → World → Prop)
    (hY : ∀ pre x W, J pre W → pre.length < len → YieldAt F (n - 1) Tryz.prog l (encK fs x.1) W fun e W' =>
      (e = .returned (.bool true) ∧ J (pre ++ [x]) W' ∧ KeptS S n₀ W W') ∨ (e = .returned (.bool false) ∧ Jx (pre ++ [x]) W'))
    (W : World) (hn₀ : n₀ ≤ W.heap.size) (hBs : W.cell? ⟨Bs, 0, none⟩ = some (.slice (some ⟨b, off, none⟩) len cap))
    (hc : ∀ j, j < len → W.cell? ⟨b, off + j, none⟩ = some (fs j)) (h0 : J [] W) :
    CallsIn F n Tryz.prog 258 #[.func (.yield l) #[] #[], .pointer (some ⟨Bs, 0, none⟩)] W fun e W' => (∃ v, e = .returned v) ∧
      ((∃ ys, (Down len ys ∧ ys.length = len) ∧ J ys W') ∨ (∃ pre, True ∧ Jx pre W')) := by
  refine callsIn_of_wp Tryz.func258 rfl h7 ?_ hro
  simp only [Tryz.ntmps258, List.size_toArray, List.length_cons, List.length_nil, Nat.reduceAdd, Nat.reduceSub, Array.replicate_succ, Array.replicate_zero, List.push_toArray, List.append_toArray, List.nil_append, List.cons_append]
  gi_wp2
  gi_loopw [3] (fun i wr => ∃ pre : List { i : Nat // i < len }, pre.length ≤ len ∧ Down len pre ∧ i = .int .i64 ((len : Int) - 1 - pre.length) ∧ J pre wr ∧ KeptS S n₀ W wr)
    (fun i _ => (intOf i + 1).toNat)
  case atStart => exact ⟨[], Nat.zero_le _, Down.nil _, by simp, h0, Kept.refl _ _⟩
  case round =>
    obtain ⟨pre, hp, hd, rfl, hJs, hnx⟩ := hrel
    have hBs' : wr.cell? ⟨Bs, 0, none⟩ = some (.slice (some ⟨b, off, none⟩) len cap) := (World.cell?_of_block (a := ⟨Bs, 0, none⟩) (hnx.block Bs (by omega) (fun e => e.elim hBn (fun x => by omega)))).trans hBs
    by_cases hlt : pre.length < len
    · obtain ⟨k, hk⟩ : ∃ k : Nat, k + pre.length + 1 = len := ⟨len - 1 - pre.length, by omega⟩
      have hkl : k < len := by omega
      obtain ⟨fn, tmps, assign, body, hy, hR⟩ := hY pre ⟨k, hkl⟩ wr hJs hlt
      have e1 : ((len : Int) - 1 - pre.length) = (k : Int) := by omega
      rw [e1]
      have hcx := hc k hkl
      have c1 : wr.cell? ⟨b, off + k, none⟩ = some (fs k) := (World.cell?_of_block (a := ⟨b, off + k, none⟩) (hnx.block b (by omega) (fun e => e.elim hbn (fun x => by omega)))).trans hcx
      obtain ⟨fn0, ca0, hf0⟩ := hfs k hkl
      have HK : Hid (k + pre.length + 1 = len) := hk
      clear hk e1 hcx hc hY hBs
      unfold encK at hy
      rw [hf0] at hy c1
      clear hf0
      gi_wp2
      refine hR.mono ?_
      rintro e W3 (⟨rfl, hJ3, hk3⟩ | ⟨rfl, hJx3⟩)
      · gi_wp2
        go_roundw
        case rel => exact ⟨pre ++ [⟨k, hkl⟩], by simp; omega, hd.snoc _ HK.out, by have := HK.out; simp; omega, hJ3, hnx.trans (hk3.mono fun x _ hx => hx)⟩
        case measure => simp [intOf]
      · gi_wp2
        refine bodyPost_ret (results_none rfl _ _ _) rfl ?_
        exact ⟨⟨_, rfl⟩, .inr ⟨_, trivial, hJx3⟩⟩
    · have e1 : ((len : Int) - 1 - pre.length) = -1 := by omega
      rw [e1]
      have HE : Hid (pre.length = len) := by show pre.length = len; omega
      clear e1
      gi_wp2
      go_end0
      exact ⟨⟨_, rfl⟩, .inl ⟨_, ⟨hd, HE.out⟩, hJs⟩⟩

set_option maxRecDepth 100000 in
set_option maxHeartbeats 1000000 in
/-- .. at the nil slice: no round. -/
theorem kBack1_nil (F : Fence) (n : Nat) (h7 : F.fn 258) (hro : F.round = none) (l Bs : Nat) (J : List { i : Nat // i < 0 } → World → Prop) (W : World) (hBs : W.cell? ⟨Bs, 0, none⟩ = some (.slice none 0 0)) (h0 : J [] W) :
    CallsIn F n Tryz.prog 258 #[.func (.yield l) #[] #[], .pointer (some ⟨Bs, 0, none⟩)] W fun e W' => (∃ v, e = .returned v) ∧ J [] W' := by
  refine callsIn_of_wp Tryz.func258 rfl h7 ?_ hro
  simp only [Tryz.ntmps258, List.size_toArray, List.length_cons, List.length_nil, Nat.reduceAdd, Nat.reduceSub, Array.replicate_succ, Array.replicate_zero, List.push_toArray, List.append_toArray, List.nil_append, List.cons_append]
  gi_wp2
  gi_loopw [3] (fun i wr => i = .int .i64 (-1) ∧ J [] wr) (fun _ _ => 0)
  case atStart => exact ⟨rfl, h0⟩
  case round =>
    obtain ⟨rfl, hJs⟩ := hrel
    gi_wp2
    go_end0
    exact ⟨⟨_, rfl⟩, hJs⟩

/-- The slice value sv holds the steps fs, in a block below n₀; or it is nil and there are none. -/
def StepsAt (n₀ : Nat) (S : Nat → Prop) (W : World) (sv : Value) (len : Nat) (fs : Nat → Value) : Prop :=
  (sv = .slice none 0 0 ∧ len = 0) ∨ ∃ b off cap, sv = .slice (some ⟨b, off, none⟩) len cap ∧ b < n₀ ∧ ¬ S b ∧ (∀ j, j < len → ∃ fn ca, fs j = .func fn #[] ca) ∧
    ∀ j, j < len → W.cell? ⟨b, off + j, none⟩ = some (fs j)

theorem StepsAt.below {n₀ : Nat} {S : Nat → Prop} {A B : World} (h : Below n₀ A B) {sv : Value} {len : Nat} {fs : Nat → Value} : StepsAt n₀ S A sv len fs → StepsAt n₀ S B sv len fs
  | .inl e => .inl e
  | .inr ⟨b, off, cap, e, hb, hn, hf, hc⟩ => .inr ⟨b, off, cap, e, hb, hn, hf, fun j hj => (h.cell (p := ⟨b, off + j, none⟩) hb).trans (hc j hj)⟩

theorem kBw_stops (F : Fence) (n : Nat) (h7 : F.fn 258) (hro : F.round = none) (hn : 1 ≤ n) (Bs n₀ : Nat) (S : Nat → Prop) (sv : Value) (len : Nat) (fs : Nat → Value) (hreach : len ≤ 100000) (w : World) (hBs : Bs < n₀) (hBn : ¬ S Bs) (hn₀ : n₀ ≤ w.heap.size)
    (hc : w.cell? ⟨Bs, 0, none⟩ = some sv) (hI : StepsAt n₀ S w sv len fs) :
    SeqStopsK F n Tryz.prog 258 #[.pointer (some ⟨Bs, 0, none⟩)] (fun x : { i : Nat // i < len } => encK fs x.1) (KeptS S n₀) (fun ys => Down len ys ∧ ys.length = len) (fun _ => True) len w := fun l J Jx W hW _ _ hY h0 => by
  have hc' := (hW.cell (p := ⟨Bs, 0, none⟩) (by show Bs < _; omega)).trans hc
  rcases hI.below (hW.mono hn₀) with ⟨rfl, rfl⟩ | ⟨b, off, cap, rfl, hb, hbn, hf, hcs⟩
  · exact (kBack1_nil F n h7 hro l Bs J W hc' h0).mono fun e W' ⟨he, hj⟩ => ⟨he, .inl ⟨[], ⟨Down.nil _, rfl⟩, hj⟩⟩
  · exact kBack1_in F n h7 hro hn l Bs n₀ S b off len cap fs hf hreach hb hBs hbn hBn J Jx hY W (Nat.le_trans hn₀ hW.size) hc' hcs h0

end Go.Proofs.YtlehlgipbhfioaaGreat

namespace Go.Proofs.YtlehlgipbhfioaaGreat
open Go.RowKit Go.Maps

theorem Chain.bs {l : List Tm} {a b : Zs} (h : Chain l a b) : ∃ r, b.bs = a.bs ++ r := by
  induction h with
  | refl => exact ⟨[], by simp⟩
  | like n s bc bx v _ _ _ ih =>
    obtain ⟨r, hr⟩ := ih
    exact ⟨r ++ [delF bc bx], by show _ ++ _ = _; rw [hr, List.append_assoc]⟩
  | join low high bc bm bo bl jv st2 v bv _ _ _ _ ih =>
    obtain ⟨r, hr⟩ := ih
    exact ⟨r ++ [undoF bc bm bo bl], by show _ ++ _ = _; rw [hr, List.append_assoc]⟩
theorem Chain.same {l : List Tm} {a b : Zs} (h : Chain l a b) : b.pk = a.pk ∧ b.ps = a.ps ∧ b.nb = a.nb ∧ b.tb = a.tb ∧ b.ub = a.ub ∧ b.mb = a.mb ∧ b.av = a.av := by
  induction h with
  | refl => exact ⟨rfl, rfl, rfl, rfl, rfl, rfl, rfl⟩
  | like n s bc bx v _ _ _ ih => exact ih
  | join low high bc bm bo bl jv st2 v bv _ _ _ _ ih => exact ih

/-- The state z, but for what its closure says: that is y's. -/
def Zs.with (z y : Zs) (jv : Value) : Zs := { z with jv := jv, uv := y.uv, g := y.g, t := y.t, us := y.us, kn := y.kn, ms := y.ms }

/-- A step's closure, and how it changes the state. -/
inductive StepOf (l : List Tm) (z : Zs) : Value → Prop
  | del (bc bx : Nat) (s : Tm) : Sk s → (bc, Obj.cells #[.pointer (some ⟨z.pk, 0, none⟩)] 57) ∈ z.st → (bx, Obj.cells (sigL s).toArray 98) ∈ z.st → StepOf l z (delF bc bx)
  | undo (bc bm bo bl low mark : Nat) (old : Value) (ys : List Nat) : low < l.length → UseIs z.st old ys → (bc, Obj.cells #[.pointer (some ⟨z.pk, 0, none⟩)] 57) ∈ z.st → (bm, Obj.cells #[.int .i64 (mark : Int)] 3) ∈ z.st → (bo, Obj.cells #[old] 110) ∈ z.st → (bl, Obj.cells #[.int .i64 (low : Int)] 3) ∈ z.st → StepOf l z (undoF bc bm bo bl)

theorem Chain.steps {l : List Tm} {a b : Zs} (h : Chain l a b) : ∀ f, f ∈ b.bs.drop a.bs.length → StepOf l b f := by
  induction h with
  | refl => intro f hf; simp at hf
  | @like b n s bc bx v hc h1 h2 ih =>
    intro f hf
    have hm : ∀ f, StepOf l b f → StepOf l (likeZ b n s bc bx v) f := fun f hf => by
      cases hf with
      | del bc' bx' s' k1 k2 k3 => exact .del bc' bx' s' k1 (List.mem_append_left _ k2) (List.mem_append_left _ k3)
      | undo bc' bm bo bl low mark old ys k1 k2 k3 k4 k5 k6 => exact .undo bc' bm bo bl low mark old ys k1 (k2.mono (fun x hx => List.mem_append_left _ hx)) (List.mem_append_left _ k3) (List.mem_append_left _ k4) (List.mem_append_left _ k5) (List.mem_append_left _ k6)
    obtain ⟨r, hr⟩ := hc.bs
    have hd : (likeZ b n s bc bx v).bs.drop a.bs.length = b.bs.drop a.bs.length ++ [delF bc bx] := by
      show (b.bs ++ [delF bc bx]).drop a.bs.length = _
      rw [List.drop_append_of_le_length (by rw [hr]; simp)]
    rw [hd] at hf
    rcases List.mem_append.1 hf with hf | hf
    · exact hm f (ih f hf)
    · simp at hf
      subst hf
      exact .del bc bx s h2 (List.mem_append_right _ (by simp [delS, likeZ])) (List.mem_append_right _ (by simp [delS]))
  | @join b low high bc bm bo bl jv st2 v bv hc h1 h2 h3 ih =>
    intro f hf
    have sub : ∀ x ∈ b.st, x ∈ (joinZ l b low high bc bm bo bl jv st2 v bv).st := fun x hx => List.mem_append_left _ (List.mem_append_left _ hx)
    have hm : ∀ f, StepOf l b f → StepOf l (joinZ l b low high bc bm bo bl jv st2 v bv) f := fun f hf => by
      cases hf with
      | del bc' bx' s' k1 k2 k3 => exact .del bc' bx' s' k1 (sub _ k2) (sub _ k3)
      | undo bc' bm bo bl low mark old ys k1 k2 k3 k4 k5 k6 => exact .undo bc' bm bo bl low mark old ys k1 (k2.mono sub) (sub _ k3) (sub _ k4) (sub _ k5) (sub _ k6)
    obtain ⟨r, hr⟩ := hc.bs
    have hd : (joinZ l b low high bc bm bo bl jv st2 v bv).bs.drop a.bs.length = b.bs.drop a.bs.length ++ [undoF bc bm bo bl] := by
      show (b.bs ++ [undoF bc bm bo bl]).drop a.bs.length = _
      rw [List.drop_append_of_le_length (by rw [hr]; simp)]
    rw [hd] at hf
    rcases List.mem_append.1 hf with hf | hf
    · exact hm f (ih f hf)
    · simp at hf
      subst hf
      have su : ∀ x ∈ undoS b low bc bm bo bl, x ∈ (joinZ l b low high bc bm bo bl jv st2 v bv).st := fun x hx => List.mem_append_left _ (List.mem_append_right _ hx)
      exact .undo bc bm bo bl low b.t.length (b.uv low) (b.us low) h2 (h3.mono sub) (su _ (by simp [undoS, joinZ])) (su _ (by simp [undoS])) (su _ (by simp [undoS])) (su _ (by simp [undoS]))

theorem UseIs.inj {st : List (Nat × Obj)} {w : World} (hw : Sat st w) {v : Value} {xs ys : List Nat} (h : UseIs st v xs) (k : UseIs st v ys) : xs = ys := by
  obtain ⟨a1, c1, f1⟩ := h.form
  obtain ⟨a2, c2, f2⟩ := k.form
  have hl : xs.length = ys.length := by rw [f1] at f2; injection f2
  apply List.ext_getElem hl
  intro i h1 h2
  have q1 : xs[i]? = some xs[i] := List.getElem?_eq_getElem h1
  have q2 : ys[i]? = some ys[i] := List.getElem?_eq_getElem h2
  obtain ⟨b, off, cap, e1, _, g1⟩ := h.cell hw q1
  obtain ⟨b', off', cap', e2, _, g2⟩ := k.cell hw q2
  rw [e1] at e2
  injection e2 with e2 _ _
  injection e2 with e2
  injection e2 with e3 e4 _
  subst e3 e4
  have := g1 i _ q1
  rw [g2 i _ q2] at this
  simp at this
  omega

/-- The last step. -/
theorem Chain.last {l : List Tm} {a z : Zs} (h : Chain l a z) (hl : a.bs.length < z.bs.length) :
    ∃ b, Chain l a b ∧ Chain l b z ∧ z.bs.length = b.bs.length + 1 ∧ ((∃ n s bc bx v, z = likeZ b n s bc bx v ∧ b.kn s = none ∧ Sk s) ∨ (∃ low high bc bm bo bl jv st2 v bv, z = joinZ l b low high bc bm bo bl jv st2 v bv ∧ joins l.length b.g low high = true ∧ low < l.length ∧ UseIs b.st (b.uv low) (b.us low))) := by
  cases h with
  | refl => omega
  | @like b n s bc bx v hc h1 h2 => exact ⟨b, hc, .like n s bc bx v (.refl b) h1 h2, by show (b.bs ++ [_]).length = _; simp, .inl ⟨n, s, bc, bx, v, rfl, h1, h2⟩⟩
  | @join b low high bc bm bo bl jv st2 v bv hc h1 h2 h3 => exact ⟨b, hc, .join low high bc bm bo bl jv st2 v bv (.refl b) h1 h2 h3, by show (b.bs ++ [_]).length = _; simp, .inr ⟨low, high, bc, bm, bo, bl, jv, st2, v, bv, rfl, h1, h2, h3⟩⟩

/-- What is made unknown again was not known. -/
theorem like_back (b : Zs) (n : Nat) (s : Tm) (bc bx : Nat) (v : Value) (h : b.kn s = none) : (fun u => if u = s then none else (likeZ b n s bc bx v).kn u) = b.kn := by
  funext u
  by_cases e : u = s
  · rw [if_pos e, e, h]
  · rw [if_neg e]
    show (if u = s then some n else b.kn u) = b.kn u
    rw [if_neg e]

/-- A join that is taken back leaves all as it was. -/
theorem join_back (l : List Tm) (b : Zs) (low high : Nat) (h : joins l.length b.g low high = true) :
    undoK (joinT l.length b.g b.t low high) (b.t.length : Int) = 1 ∧ Uf.back (joinG l.length b.g low high) (joinT l.length b.g b.t low high) 1 = b.g ∧ (joinT l.length b.g b.t low high).drop 1 = b.t := by
  have ht : joinT l.length b.g b.t low high = ⟨(Uf.pick b.g low high).1, (b.g.N (Uf.pick b.g low high).2).lst, b.g⟩ :: b.t := by rw [joinT, h]; simp
  rw [ht]
  refine ⟨?_, ?_, rfl⟩
  · have hu : undoes (⟨(Uf.pick b.g low high).1, (b.g.N (Uf.pick b.g low high).2).lst, b.g⟩ :: b.t : List Uf.Rec) (b.t.length : Int) = true := decide_eq_true (by simp; omega)
    rw [undoK, hu, if_pos rfl, Int.toNat_natCast]
    simp
  · simp [Uf.back, back_zero]

end Go.Proofs.YtlehlgipbhfioaaGreat

namespace Go.Proofs.YtlehlgipbhfioaaGreat
open Go.RowKit Go.Shelf
attribute [local go_sem] Oper.semAt_some

theorem with_all {z y : Zs} {jv : Value} (hj : jv.ownBlock = z.jv.ownBlock) {k : Nat} (h : (z.with y jv).All k) : z.All k := by
  rcases h with (e | (e | e | e) | e | e | e) | e | e
  · exact .inl (.inl e)
  · exact .inl (.inr (.inl (.inl e)))
  · exact .inl (.inr (.inl (.inr (.inl e))))
  · exact .inl (.inr (.inl (.inr (.inr (by rw [← hj]; exact e)))))
  · exact .inl (.inr (.inr (.inl e)))
  · exact .inl (.inr (.inr (.inr (.inl e))))
  · exact .inl (.inr (.inr (.inr (.inr e))))
  · exact .inr (.inl e)
  · exact .inr (.inr e)
theorem with_foot {z y : Zs} {jv : Value} (hj : jv.ownBlock = z.jv.ownBlock) {k : Nat} (h : (z.with y jv).Foot k) : z.Foot k := by
  rcases h with e | (e | e | e) | e | e | e
  · exact .inl e
  · exact .inr (.inl (.inl e))
  · exact .inr (.inl (.inr (.inl e)))
  · exact .inr (.inl (.inr (.inr (by rw [← hj]; exact e))))
  · exact .inr (.inr (.inl e))
  · exact .inr (.inr (.inr (.inl e)))
  · exact .inr (.inr (.inr (.inr e)))

/-- What a step writes: not the row of steps itself. -/
def Zs.Wr (z : Zs) (k : Nat) : Prop := z.Foot k ∧ z.bv.ownBlock ≠ some k

/-- Between two rounds. -/
structure MidK (W0 : World) (base : Nat) (l : List Tm) (z z0 : Zs) (len : Nat) (pre : List { i : Nat // i < len }) (W : World) : Prop where
  st : ∃ (y : Zs) (jv : Value), jv.ownBlock = z.jv.ownBlock ∧ Cz W base l (z.with y jv) ∧ (Down len pre → ∃ zk, Chain l z0 zk ∧ Chain l zk z ∧ zk.bs.length + pre.length = z.bs.length ∧ y.uv = zk.uv ∧ y.g = zk.g ∧ y.t = zk.t ∧ y.us = zk.us ∧ y.kn = zk.kn ∧ y.ms = zk.ms)
  kept : KeptS z.Wr W0.heap.size W0 W
theorem midK_own (W0 : World) (base : Nat) (l : List Tm) (z z0 : Zs) (len : Nat) (h : Cz W0 base l z) : OwnFrom W0.heap.size (MidK W0 base l z z0 len) := by
  intro pre A B row hs hg hr
  obtain ⟨y, jv, h1, h2, h3⟩ := hs.st
  have K : Kept (fun k => some k = row) A B := ⟨hg.os, hg.tape, hg.output, hg.size, fun k hk hk2 => hg.block k hk hk2⟩
  refine ⟨⟨y, jv, h1, h2.keep K (fun k hk e => ?_), h3⟩, hs.kept.grown hg (fun k e => Or.inr (hr k e).1)⟩
  have a1 := h.all_lt (with_all h1 hk)
  have a2 := (hr k e.symm).1
  omega

/-- One step is taken back: the right one, or another. -/
theorem step_call {W : World} {base : Nat} {l : List Tm} {z z0 y : Zs} {jv : Value} (hj : jv.ownBlock = z.jv.ownBlock) (C : Cz W base l (z.with y jv)) {f : Value} (hf : StepOf l z f) :
    ∃ fn ca, f = .func (.func fn) #[] ca ∧ ((fn = 75 ∧ ∃ p q, ca = #[p, q]) ∨ (fn = 73 ∧ ∃ p q r s, ca = #[p, q, r, s])) ∧ Calls Tryz.prog fn ca W fun e W' => e = .returned (.tuple #[]) ∧ ∃ y' jv', jv'.ownBlock = z.jv.ownBlock ∧ Cz W' base l (z.with y' jv') ∧ Kept z.Wr W W' ∧
      (∀ zk, Chain l zk z → Chain l z0 zk → z0.bs.length < zk.bs.length → z.bs[zk.bs.length - 1]? = some f → y.uv = zk.uv → y.g = zk.g → y.t = zk.t → y.us = zk.us → y.kn = zk.kn → y.ms = zk.ms → ∃ b, Chain l z0 b ∧ Chain l b z ∧ b.bs.length + 1 = zk.bs.length ∧ y'.uv = b.uv ∧ y'.g = b.g ∧ y'.t = b.t ∧ y'.us = b.us ∧ y'.kn = b.kn ∧ y'.ms = b.ms) := by
  have A := C.apart
  have inv : ∀ {b : Nat} {o o' : Obj}, (b, o) ∈ z.st → (b, o') ∈ z.st → o = o' := fun h1 h2 => by
    have e1 := C.sat _ h1
    have e2 := C.sat _ h2
    rw [e1] at e2
    exact Option.some.inj e2
  cases hf with
  | del bc bx s k1 k2 k3 =>
    refine ⟨75, #[.pointer (some ⟨bc, 0, none⟩), .pointer (some ⟨bx, 0, none⟩)], rfl, .inl ⟨rfl, _, _, rfl⟩, (del_in W base l (z.with y jv) C s k1 bc bx k2 k3).mono ?_⟩
    rintro e W' ⟨he, C', K'⟩
    refine ⟨he, { y with kn := fun u => if u = s then none else y.kn u, ms := y.ms - (if (y.kn s).isSome then 1 else 0) }, jv, hj, C', Kept.mono K' (fun k _ e => ⟨.inr (.inr (.inr (.inl e))), fun h => A.mb (by rw [← e]; exact h)⟩), ?_⟩
    intro zk c1 c2 hl hx e1 e2 e3 e4 e5 e6
    obtain ⟨b, b1, b2, b3, hb⟩ := c2.last hl
    obtain ⟨r, hr⟩ := c1.bs
    rcases hb with ⟨n, s', bc', bx', v, rfl, q1, q2⟩ | ⟨low, high, bc', bm, bo, bl, jv2, st2, v, bv, rfl, q1, q2, q3⟩
    · have hlast : z.bs[(likeZ b n s' bc' bx' v).bs.length - 1]? = some (delF bc' bx') := by
        rw [hr]
        show ((b.bs ++ [delF bc' bx']) ++ r)[(b.bs ++ [delF bc' bx']).length - 1]? = _
        simp
      rw [hlast] at hx
      simp [delF] at hx
      obtain ⟨rfl, rfl⟩ := hx
      have hin : (bx', Obj.cells (sigL s').toArray 98) ∈ z.st := c1.st _ (List.mem_append_right _ (by simp [delS]))
      have hso := inv k3 hin
      simp only [Obj.cells.injEq, and_true] at hso
      have hss : s = s' := sigV_inj k1 q2 (by unfold sigV; rw [hso])
      subst hss
      refine ⟨b, b1, b2.trans c1, b3.symm, e1, e2, e3, e4, ?_, ?_⟩
      · show (fun u => if u = s then none else y.kn u) = b.kn
        rw [e5]
        exact like_back b n s bc' bx' v q1
      · show y.ms - (if (y.kn s).isSome then 1 else 0) = b.ms
        have e7 : y.kn s = some n := by rw [e5]; exact if_pos rfl
        rw [e6, e7]
        show b.ms + 1 - 1 = b.ms
        omega
    · exfalso
      have hlast : z.bs[(joinZ l b low high bc' bm bo bl jv2 st2 v bv).bs.length - 1]? = some (undoF bc' bm bo bl) := by
        rw [hr]
        show ((b.bs ++ [undoF bc' bm bo bl]) ++ r)[(b.bs ++ [undoF bc' bm bo bl]).length - 1]? = _
        simp
      rw [hlast] at hx
      simp [delF, undoF] at hx
  | undo bc bm bo bl low mark old ys k1 k2 k3 k4 k5 k6 =>
    refine ⟨73, #[.pointer (some ⟨bc, 0, none⟩), .pointer (some ⟨bm, 0, none⟩), .pointer (some ⟨bo, 0, none⟩), .pointer (some ⟨bl, 0, none⟩)], rfl, .inr ⟨rfl, _, _, _, _, rfl⟩, (undo_in W base l (z.with y jv) C low mark old ys k1 k2 bc bm bo bl k3 k4 k5 k6).mono ?_⟩
    rintro e W' ⟨he, jv', hj', C', K'⟩
    refine ⟨he, { y with g := Uf.back y.g y.t (undoK y.t mark), t := y.t.drop (undoK y.t mark), uv := fun i => if i = low then old else y.uv i, us := fun i => if i = low then ys else y.us i }, jv', hj'.trans hj, C', Kept.mono K' ?_, ?_⟩
    · rintro k _ (e | e)
      · refine ⟨with_foot (y := y) hj (.inr (.inl e)), fun h => ?_⟩
        rcases e with e | e | e
        · exact A.pb (by rw [← e]; exact h)
        · exact A.nb (by rw [← e]; exact h)
        · exact A.jb k e h
      · exact ⟨.inr (.inr (.inl e)), fun h => A.ub (by rw [← e]; exact h)⟩
    intro zk c1 c2 hl hx e1 e2 e3 e4 e5 e6
    obtain ⟨b, b1, b2, b3, hb⟩ := c2.last hl
    obtain ⟨r, hr⟩ := c1.bs
    rcases hb with ⟨n, s', bc', bx', v, rfl, q1, q2⟩ | ⟨low', high, bc', bm', bo', bl', jv2, st2, v, bv, rfl, q1, q2, q3⟩
    · exfalso
      have hlast : z.bs[(likeZ b n s' bc' bx' v).bs.length - 1]? = some (delF bc' bx') := by
        rw [hr]
        show ((b.bs ++ [delF bc' bx']) ++ r)[(b.bs ++ [delF bc' bx']).length - 1]? = _
        simp
      rw [hlast] at hx
      simp [delF, undoF] at hx
    · have hlast : z.bs[(joinZ l b low' high bc' bm' bo' bl' jv2 st2 v bv).bs.length - 1]? = some (undoF bc' bm' bo' bl') := by
        rw [hr]
        show ((b.bs ++ [undoF bc' bm' bo' bl']) ++ r)[(b.bs ++ [undoF bc' bm' bo' bl']).length - 1]? = _
        simp
      rw [hlast] at hx
      simp [undoF] at hx
      obtain ⟨rfl, rfl, rfl, rfl⟩ := hx
      have su : ∀ x ∈ undoS b low' bc' bm' bo' bl', x ∈ z.st := fun x hx => c1.st _ (List.mem_append_left _ (List.mem_append_right _ hx))
      have i1 := inv k4 (su (bm', .cells #[.int .i64 (b.t.length : Int)] 3) (by simp [undoS]))
      have i2 := inv k5 (su (bo', .cells #[b.uv low'] 110) (by simp [undoS]))
      have i3 := inv k6 (su (bl', .cells #[.int .i64 (low' : Int)] 3) (by simp [undoS]))
      simp at i1 i2 i3
      have i1' : mark = b.t.length := by omega
      have i3' : low = low' := by omega
      subst i1' i2 i3'
      have hys : ys = b.us low := UseIs.inj C.sat k2 (q3.mono (fun x hx => c1.st _ (List.mem_append_left _ (List.mem_append_left _ hx))))
      subst hys
      obtain ⟨j1, j2, j3⟩ := join_back l b low high q1
      have ht : y.t = joinT l.length b.g b.t low high := e3
      have hg : y.g = joinG l.length b.g low high := e2
      refine ⟨b, b1, b2.trans c1, b3.symm, ?_, ?_, ?_, ?_, e5, e6⟩
      · funext i
        show (if i = low then b.uv low else y.uv i) = b.uv i
        rw [e1]
        show (if i = low then b.uv low else if i = low then v else b.uv i) = b.uv i
        by_cases e : i = low
        · rw [if_pos e, e]
        · rw [if_neg e, if_neg e]
      · show Uf.back y.g y.t (undoK y.t (b.t.length : Int)) = b.g
        rw [ht, hg, j1, j2]
      · show y.t.drop (undoK y.t (b.t.length : Int)) = b.t
        rw [ht, j1, j3]
      · funext i
        show (if i = low then b.us low else y.us i) = b.us i
        rw [e4]
        show (if i = low then b.us low else if i = low then b.us low ++ b.us high else b.us i) = b.us i
        by_cases e : i = low
        · rw [if_pos e, e]
        · rw [if_neg e, if_neg e]

end Go.Proofs.YtlehlgipbhfioaaGreat

namespace Go.Proofs.YtlehlgipbhfioaaGreat
open Go.RowKit Go.Shelf

attribute [local go_sem] Oper.semAt_some

/-- A Form behind its Kids. -/
def isEnd (x : Lf × Nat) : Option Lf := if x.2 = x.1.ks.length then some x.1 else none
def es (t : Lf) : List Lf := (wk t 0).filterMap isEnd
def encE (x : Lf) : Array Value := #[.pointer (some ⟨x.b, x.o, none⟩)]
/-- How many have come to their end. -/
def cntE (t : Lf) (i : Nat) : Nat := (((wk t 0).take i).filterMap isEnd).length

theorem cntE_step {t x : Lf} {d i : Nat} (h : (wk t 0)[i]? = some (x, d)) : (d = x.ks.length → (es t)[cntE t i]? = some x ∧ cntE t (i + 1) = cntE t i + 1) ∧ (d ≠ x.ks.length → cntE t (i + 1) = cntE t i) := by
  have hlt := (List.getElem?_eq_some_iff.1 h).1
  have e1 : (wk t 0).take (i + 1) = (wk t 0).take i ++ [(x, d)] := by
    rw [List.take_add_one, h]; rfl
  have e2 : wk t 0 = (wk t 0).take i ++ (x, d) :: (wk t 0).drop (i + 1) := by
    have := List.take_append_drop i (wk t 0)
    rw [List.drop_eq_getElem_cons hlt] at this
    rw [(List.getElem?_eq_some_iff.1 h).2] at this
    exact this.symm
  constructor
  · intro hd
    have he : isEnd (x, d) = some x := by simp [isEnd, hd]
    refine ⟨?_, ?_⟩
    · unfold es cntE
      rw [e2, List.filterMap_append, List.filterMap_cons_some he]
      have : (List.take i (List.take i (wk t 0) ++ (x, d) :: List.drop (i + 1) (wk t 0))) = (wk t 0).take i := by rw [← e2]
      rw [this]
      simp
    · unfold cntE
      rw [e1, List.filterMap_append, List.filterMap_cons_some he]
      simp
  · intro hd
    unfold cntE
    rw [e1, List.filterMap_append]
    simp [isEnd, hd]
theorem cntE_all (t : Lf) : cntE t (wk t 0).length = (es t).length := by simp [cntE, es]

theorem ks_sub {t k : Lf} (h : k ∈ t.ks) : k ∈ t.kids := by
  unfold Lf.ks at h
  split at h
  · cases h
  · exact h
/-- A step through a formula is a Form of it. -/
theorem wk_here {W : World} (t : Lf) (d : Nat) (ht : Here W t) (hd : d ≤ t.ks.length) : ∀ y ∈ wk t d, Here W y.1 ∧ y.2 ≤ y.1.ks.length := by
  intro y hy
  cases h : t.ks[d]? with
  | none =>
    rw [wk_end h] at hy
    obtain rfl := List.mem_singleton.1 hy
    exact ⟨ht, hd⟩
  | some k =>
    have hlt := (List.getElem?_eq_some_iff.1 h).1
    rw [wk_step h] at hy
    rcases List.mem_cons.1 hy with rfl | hy
    · exact ⟨ht, hd⟩
    · rcases List.mem_append.1 hy with hy | hy
      · exact wk_here k 0 (ht.kid (ks_sub (List.mem_of_getElem? h))) (Nat.zero_le _) y hy
      · exact wk_here t (d + 1) ht hlt y hy
termination_by (SizeOf.sizeOf t, t.ks.length - d)
decreasing_by
  · exact Prod.Lex.left _ _ (ks_lt (List.mem_of_getElem? h))
  · exact Prod.Lex.right _ (by omega)
theorem Ow.fkeep {B : Nat} {W W' : World} (h : Ow 335 B W W') : FKeep 0 W W' := fun k c fz _ hk => h.same k _ hk (Or.inr ⟨rfl, by rintro ⟨c', ty', fz', e, e'⟩; cases e; cases e'⟩)
theorem Ow.rowIs {B : Nat} {W W' : World} (h : Ow 335 B W W') {b n : Nat} {ty : TypeId} {f : Nat → Value} (hne : ty ≠ 335) (hr : W.rowIs b ty n f) : W'.rowIs b ty n f := by
  obtain ⟨c, h1, h2⟩ := hr
  exact ⟨c, h.same b _ h1 (Or.inr ⟨rfl, by rintro ⟨c', ty', fz', e, e'⟩; cases e; exact hne e'⟩), h2⟩
theorem Kr.rowIs {B : Nat} {W W' : World} (h : Kr WTy B W W') {b n : Nat} {ty : TypeId} {f : Nat → Value} (ht : WTy ty) (hr : W.rowIs b ty n f) : W'.rowIs b ty n f := by
  obtain ⟨c, h1, h2⟩ := hr
  exact ⟨c, h.same b _ h1 (Or.inr ⟨c, ty, (0, 0), rfl, ht⟩), h2⟩

/-- A round of the wide fence, in a round. -/
theorem round_any {n m l l2 : Nat} {P : Program} {f : FuncId} {tmps : Array Value} {assign body : Code} {w : World} {R : Ending → World → Prop} (h : RoundIn Fence.wide n P l f tmps assign body w R) : RoundIn (Fence.wide.inRound l2) m P l f tmps assign body w R :=
  ⟨trivial, fun c cs _ => h.2 c cs (room_wide _)⟩

set_option maxHeartbeats 1000000 in
theorem ends_in (w : World) (a : Option Addr) :
    Calls Tryz.prog 155 #[.pointer a] w fun e w' => e = .returned (.func (.func 195) #[] #[.pointer (some ⟨w.heap.size, 0, none⟩)]) ∧ w' = w.alloc (.cells #[.pointer a] 161) := by
  go_enter Tryz.func155, Tryz.ntmps155
  go_wp2
  go_ret
  exact ⟨rfl, rfl⟩

set_option maxRecDepth 100000 in
set_option maxHeartbeats 2000000 in
theorem ends1_in (n : Nat) (hn : 3 ≤ n) (Bf : Nat) (t : Lf) (w0 : World) (hb : w0.rowIs Bf 161 1 (fun _ => .pointer (some ⟨t.b, t.o, none⟩))) (ht : Here w0 t) (hN : (wk t 0).length * 16 ≤ 140737488355328) :
    SeqT n Tryz.prog WTy 335 195 #[.pointer (some ⟨Bf, 0, none⟩)] encE (es t) w0 := by
  intro l J W hW hJ hY h0
  have h1n : 1 ≤ n := by omega
  have hBf : Bf < W.heap.size := Nat.lt_of_lt_of_le hb.lt hW.size
  have hbW := (hW.cell (p := ⟨Bf, 0, none⟩) hb.lt).trans (hb.cell (i := 0) (by omega))
  refine callsIn_of_wp_marks Tryz.func195 rfl trivial ?_ rfl
  simp only [Tryz.ntmps195, List.size_toArray, List.length_cons, List.length_nil, Nat.reduceAdd, Nat.reduceSub, Array.replicate_succ, Array.replicate_zero, List.push_toArray, List.append_toArray, List.nil_append, List.cons_append]
  gi_wp2_with (first | (refine ⟨trivial, ?_⟩; gi_at_call 196; refine (callsIn_wide.2 (steps_in _ _)).mono ?_; rintro e w5 ⟨rfl, rfl⟩) | (gi_at_call 196; refine (callsIn_wide.2 (steps_in _ _)).mono ?_; rintro e w5 ⟨rfl, rfl⟩))
  have hz2 : ((W.alloc (.cells #[.func (.yield l) #[] #[]] 243)).alloc (.cells #[.pointer (some ⟨t.b, t.o, none⟩)] 161)).heap.size = W.heap.size + 2 := by simp
  have hz1 : (W.alloc (.cells #[.func (.yield l) #[] #[]] 243)).heap.size = W.heap.size + 1 := by simp
  have one : ∀ (w : World) (v : Value) (ty : TypeId), (w.alloc (.cells #[v] ty)).rowIs w.heap.size ty 1 (fun _ => v) := fun w v ty => World.rowIs.congr (made_row w #[v] ty) (fun j hj => by
    have : j = 0 := by simp at hj; omega
    subst this; rfl)
  have y2 : ((W.alloc (.cells #[.func (.yield l) #[] #[]] 243)).alloc (.cells #[.pointer (some ⟨t.b, t.o, none⟩)] 161)).rowIs W.heap.size 243 1 (fun _ => .func (.yield l) #[] #[]) := (one W _ _).of_block (Below.heap_alloc _ _ _ (by simp))
  have b2 : ((W.alloc (.cells #[.func (.yield l) #[] #[]] 243)).alloc (.cells #[.pointer (some ⟨t.b, t.o, none⟩)] 161)).rowIs (W.heap.size + 1) 161 1 (fun _ => .pointer (some ⟨t.b, t.o, none⟩)) := hz1 ▸ one _ (.pointer (some ⟨t.b, t.o, none⟩)) 161
  have ht2 : Here ((W.alloc (.cells #[.func (.yield l) #[] #[]] 243)).alloc (.cells #[.pointer (some ⟨t.b, t.o, none⟩)] 161)) t := (ht.keep (fun k c fz _ hk => (hW.block k (Array.getElem?_eq_some_iff.1 hk).1).trans hk)).keep (((FKeep.alloc 0 W _).trans (FKeep.alloc 0 _ _)).toA _)
  have J2 : J 0 ((W.alloc (.cells #[.func (.yield l) #[] #[]] 243)).alloc (.cells #[.pointer (some ⟨t.b, t.o, none⟩)] 161)) := hJ 0 _ _ h0 ((Ow.alloc W _).trans (Ow.alloc _ _))
  generalize (W.alloc (.cells #[.func (.yield l) #[] #[]] 243)).alloc (.cells #[.pointer (some ⟨t.b, t.o, none⟩)] 161) = w2 at hz2 y2 b2 ht2 J2 ⊢
  clear one hz1 hbW h0
  refine rangeT h1n (gf := 234) (lb := #[.pointer (some ⟨W.heap.size + 1, 0, none⟩)]) rfl (enters_of Tryz.func234 (by kernel_rfl) rfl) (steps1_in (n - 1) (by omega) (W.heap.size + 1) t w2 b2 ht2 hN) (Below.refl _ _) (fun _ => rfl)
    (fun i W1 => J (cntE t i) W1 ∧ Here W1 t ∧ W1.rowIs W.heap.size 243 1 (fun _ => .func (.yield l) #[] #[]) ∧ W.heap.size ≤ W1.heap.size)
    ?hI ?h0 (fun x => { tmps := #[.func (.yield l) #[] #[], .pointer (some ⟨Bf, 0, none⟩), .pointer (some ⟨W.heap.size, 0, none⟩), .pointer (some ⟨x.1.b, x.1.o, none⟩), .int .i64 (x.2 : Int), .pointer (some ⟨t.b, t.o, none⟩), .func (.func 234) #[] #[.pointer (some ⟨W.heap.size + 1, 0, none⟩)], .pointer (some ⟨x.1.b, x.1.o, none⟩), .int .i64 (x.2 : Int), undef, undef, undef, undef, undef, undef, undef, undef, undef, undef, undef], defers := [] }) ?assign ?body ?done
  case hI =>
    rintro i A B ⟨j1, j2, j3, j4⟩ hO
    exact ⟨hJ _ _ _ j1 (hO.mono (by omega)), j2.keep (hO.fkeep.toA _), hO.rowIs (by decide) j3, Nat.le_trans j4 hO.size⟩
  case h0 => exact ⟨J2, ht2, y2, by omega⟩
  case assign =>
    intro l2 x W1 K hK
    unfold encS
    gi_wp2
    exact hK
  case body =>
    rintro l2 i ⟨x, d⟩ W1 hx hw1 ⟨j1, j2, j3, j4⟩
    obtain ⟨hE1, hE2⟩ := cntE_step hx
    obtain ⟨hxh, hxd⟩ := wk_here t 0 j2 (Nat.zero_le _) (x, d) (List.mem_of_getElem? hx)
    obtain ⟨ka, kc, hkf⟩ := kids_form hxh
    have KD : CallsIn (Fence.wide.inRound l2) (n - 1 - 1 - 1) Tryz.prog 156 #[.pointer (some ⟨x.b, x.o, none⟩)] W1 fun e w' => e = .returned (.slice ka x.ks.length kc) ∧ w' = W1 := by
      have := kids_in W1 x hxh
      rw [hkf] at this
      exact CallsIn.inRound l2 (callsIn_wide.2 this)
    have cy := j3.cell (i := 0) (by omega)
    have hr1 : 1 ≤ n - 1 - 1 := by omega
    by_cases hd : d = x.ks.length
    · obtain ⟨hE3, hE4⟩ := hE1 hd
      obtain ⟨fn, tmps, assign, body, hy, hR⟩ := hY (cntE t i) x W1 hE3 j1
      unfold encE at hy
      have dE : ((d : Int) == (x.ks.length : Int)) = true := by simp; omega
      have dE' : (d : Int) = (x.ks.length : Int) := by omega
      gi_wp2_with (first | (refine ⟨trivial, ?_⟩; gi_at_call 156; refine KD.mono ?_; rintro e w5 ⟨rfl, rfl⟩))
      refine (round_any hR).mono ?_
      rintro e w6 ⟨rfl, hJ6, hK6⟩
      gi_wp2
      exact ⟨hK6.mono (by omega), hE4 ▸ hJ6, j2.keep (hK6.fkeep.toA _), hK6.rowIs (Or.inr (Or.inr (Or.inr (Or.inl rfl)))) j3, Nat.le_trans j4 hK6.size⟩
    · have dE : ((d : Int) == (x.ks.length : Int)) = false := by simp; omega
      have dE' : ¬ (d : Int) = (x.ks.length : Int) := by omega
      gi_wp2_with (first | (refine ⟨trivial, ?_⟩; gi_at_call 156; refine KD.mono ?_; rintro e w5 ⟨rfl, rfl⟩))
      refine ⟨fun _ h => (by cases h), ?_⟩
      gi_wp2
      exact ⟨Kr.refl _ _ _, (hE2 hd) ▸ j1, j2, j3, j4⟩
  case done =>
    rintro D W3 hD ⟨j1, j2, j3, j4⟩ hK
    gi_wp2
    refine ⟨by simp, .inl ⟨_, _, rfl, run_takeDeferred hK, ?_⟩⟩
    exact ⟨_, results_none rfl _ _ _, ⟨_, rfl⟩, cntE_all t ▸ hJ _ _ _ j1 (Ow.putObj _ (by omega) hK rfl)⟩

end Go.Proofs.YtlehlgipbhfioaaGreat

namespace Go.Proofs.YtlehlgipbhfioaaGreat
open Go.RowKit Go.Shelf
attribute [local go_sem] Oper.semAt_some

theorem keptS_b {S : Nat → Prop} {n₀ : Nat} {w : World} (hn : n₀ ≤ w.heap.size) (W : World) (l : Nat) (o o' : Obj) (hl : w.heap.size ≤ l) (_ : W.heap[l]? = some o) (_ : o.isCells = false) (_ : o.isWalk = false) : KeptS S n₀ W (W.putObj l o') :=
  (Kept.refl _ W).grown (grownBy_putObj' W l o') (fun k e => by cases e; exact Or.inr (by omega))
theorem ownsRow_above {W : World} {base : Nat} {e : TypeId} {g cap m : Nat} {ys : List Value} (h : W.ownsRow base e 1 (.slice (some ⟨g, 0, none⟩) m cap) m ys) {o : Nat} (ho : m ≤ o) (v : Value) : (W.setCell ⟨g, o, none⟩ v).ownsRow base e 1 (.slice (some ⟨g, 0, none⟩) m cap) m ys := by
  refine ⟨h.1, ?_⟩
  rcases h.2 with ⟨e', _⟩ | ⟨g', c, cur, e', h1, h2, h3, h4, h5, h6⟩
  · cases e'
  · simp only [Value.slice.injEq, Option.some.injEq, Addr.mk.injEq, and_true, true_and] at e'
    obtain ⟨rfl, rfl⟩ := e'
    refine .inr ⟨g, cap, cur.setIfInBounds o v, rfl, h1, ?_, h3, h4, by simpa using h5, ?_⟩
    · simp [World.setCell, Array.getElem?_modify, h2]
    · rw [← h6, Array.toList_setIfInBounds, List.take_set_of_le (by omega)]
theorem ownsRow_aboves {base : Nat} {e : TypeId} {g cap m : Nat} {ys : List Value} : ∀ (vs : List Value) (o : Nat) (W : World), m ≤ o → W.ownsRow base e 1 (.slice (some ⟨g, 0, none⟩) m cap) m ys → (W.setCells g o vs).ownsRow base e 1 (.slice (some ⟨g, 0, none⟩) m cap) m ys ∧ Kept1 g W (W.setCells g o vs)
  | [], _, W, _, h => ⟨h, Kept.refl _ W⟩
  | v :: vs, o, W, ho, h => by
    obtain ⟨h1, h2⟩ := ownsRow_aboves vs (o + 1) (W.setCell ⟨g, o, none⟩ v) (by omega) (ownsRow_above h ho v)
    exact ⟨h1, (Kept1.set (Kept.refl _ W) o v).trans h2⟩

theorem zeroStep (w : World) : (zeroValue 1).run Tryz.prog w = .ok .nilFunc w := by kernel_rfl
/-- The steps that were taken back are cleared. -/
theorem clear_back {W : World} {base bb cap n m off : Nat} {xs : List Value} (h : W.ownsRow base 1 1 (.slice (some ⟨bb, 0, none⟩) n cap) n xs) (hm : m ≤ n) (hoff : m < n → off = m) (ty : TypeId) :
    ∃ W', (Builtin.clear_ #[69] ty #[.slice (some ⟨bb, off, none⟩) (n - m) (cap - m)]).run Tryz.prog W = .ok (.tuple #[]) W' ∧ W'.ownsRow base 1 1 (.slice (some ⟨bb, 0, none⟩) m cap) m (xs.take m) ∧ Kept1 bb W W' := by
  have hc := ownsRow_cut h rfl hm
  rw [Nat.mul_one] at hc
  by_cases e : m < n
  · rw [hoff e]
    have hcell : ∀ j, j < n - m → (W.cell? ⟨bb, m + j, none⟩).isSome = true := fun j hj => by
      rw [h.cellAt (m + j) (by omega), List.getElem?_eq_getElem (by rw [h.1]; omega)]
      rfl
    have hr := Lib.run_clear_slice (P := Tryz.prog) W 69 1 ty .nilFunc Tryz.underlying69 zeroStep rfl rfl bb m (n - m) (cap - m) (by omega) hcell (fun j _ => h.frozenAt (m + j))
    obtain ⟨h1, h2⟩ := ownsRow_aboves (List.replicate (n - m) .nilFunc) m W (Nat.le_refl _) hc
    exact ⟨_, hr, h1, h2⟩
  · obtain rfl : m = n := by omega
    refine ⟨W, ?_, hc, Kept.refl _ W⟩
    simp [Builtin.clear_, run_underlying Tryz.underlying69]

/-- The row of steps is another, where it lay. -/
theorem Cz.reback {w w1 : World} {base : Nat} {l : List Tm} {z : Zs} (h : Cz w base l z) (K1 : Kept (fun k => z.bv.ownBlock = some k) w w1) (v' : Value) (ys : List Value) (hown : w1.ownsRow base 1 1 v' ys.length ys) (hv : v'.ownBlock = z.bv.ownBlock) :
    Cz (w1.setCell ⟨z.pk, 4, none⟩ v') base l { z with bv := v', bs := ys } ∧ Kept z.Foot w (w1.setCell ⟨z.pk, 4, none⟩ v') ∧ w1.cell? ⟨z.pk, 4, none⟩ = some z.bv ∧ w1.frozen? ⟨z.pk, 4, none⟩ = false := by
  have K2 : Kept (fun k => k = z.pk ∨ z.bv.ownBlock = some k) w (w1.setCell ⟨z.pk, 4, none⟩ v') := Kept.setCell (p := ⟨z.pk, 4, none⟩) (Kept.mono K1 (fun _ _ e => .inr e)) (.inl rfl) _
  have A := h.apart
  have hp : w1.rowIs z.pk 71 5 (clsC z l.length) := h.cls.of_block (K1.block _ h.cls.lt A.kb)
  have np := rowIs_type hp (by decide) hown
  obtain ⟨D, d1, d2, d3⟩ := h.known
  have hfoot : ∀ k, Zs.Foot { z with bv := v', bs := ys } k → z.Foot k := by
    rintro k (e | e | e | e | e)
    · exact .inl e
    · exact .inr (.inl e)
    · exact .inr (.inr (.inl e))
    · exact .inr (.inr (.inr (.inl e)))
    · exact .inr (.inr (.inr (.inr (hv ▸ e))))
  refine ⟨⟨(hp.set 4 v').congr ?_, h.sets.other K2 ?_ ?_ ?_, h.terms.of_block (K2.block _ h.terms.lt ?_), h.uses.of_block (K2.block _ h.uses.lt ?_), ⟨D, mapIs_block d1 (K2.block _ (World.ownsMap.lt d1) ?_), d2, d3⟩, ?_, ?_, ?_, h.argsAt, h.usesAt, h.bd, h.oks, h.len, h.bp, h.bt, h.bu, h.bm⟩, ?_, hp.cell (i := 4) (by omega), hp.frozen 4⟩
  · intro i hi
    rcases (by omega : i = 0 ∨ i = 1 ∨ i = 2 ∨ i = 3 ∨ i = 4) with rfl | rfl | rfl | rfl | rfl <;> simp [clsC]
  · rintro (e | e)
    · exact A.kp e.symm
    · exact A.pb e
  · rintro (e | e)
    · exact A.kn e.symm
    · exact A.nb e
  · rintro k hk (e | e)
    · exact A.kj (by rw [hk, e])
    · exact A.jb k hk e
  · rintro (e | e)
    · exact A.kt e.symm
    · exact A.bt e
  · rintro (e | e)
    · exact A.ku e.symm
    · exact A.ub e
  · rintro (e | e)
    · exact A.km e.symm
    · exact A.mb e
  · exact ownsRow_setCell_other hown np _
  · intro x hx
    refine (K2.block x.1 (h.st_lt hx) ?_).trans (h.sat x hx)
    rintro (e | e)
    · exact (h.far x hx).2 (.inl e)
    · exact (h.far x hx).2 (.inr (.inr (.inr (.inr e))))
  · intro x hx
    refine ⟨(h.far x hx).1, fun hk => ?_⟩
    exact (h.far x hx).2 (hfoot _ hk)
  · refine Kept.mono K2 ?_
    rintro k _ (e | e)
    · exact .inl e
    · exact .inr (.inr (.inr (.inr e)))

theorem Chain.eq_of_len {l : List Tm} {a b : Zs} (h : Chain l a b) (hl : b.bs.length = a.bs.length) : b = a := by
  by_cases e : a.bs.length < b.bs.length
  · omega
  · cases h with
    | refl => rfl
    | @like b n s bc bx v hc h1 h2 =>
      obtain ⟨r, hr⟩ := hc.bs
      have : (likeZ b n s bc bx v).bs.length = b.bs.length + 1 := by show (b.bs ++ [_]).length = _; simp
      rw [hr, List.length_append] at this
      omega
    | @join b low high bc bm bo bl jv st2 v bv hc h1 h2 h3 =>
      obtain ⟨r, hr⟩ := hc.bs
      have : (joinZ l b low high bc bm bo bl jv st2 v bv).bs.length = b.bs.length + 1 := by show (b.bs ++ [_]).length = _; simp
      rw [hr, List.length_append] at this
      omega
theorem StepOf.form {l : List Tm} {z : Zs} {f : Value} (h : StepOf l z f) : ∃ fn ca, f = .func fn #[] ca := by
  cases h with
  | del bc bx s => exact ⟨_, _, rfl⟩
  | undo bc bm bo bl => exact ⟨_, _, rfl⟩

set_option maxRecDepth 100000 in
set_option maxHeartbeats 2000000 in
theorem takeBack_in (w : World) (base : Nat) (l : List Tm) (z z0 : Zs) (h : Cz w base l z) (hc : Chain l z0 z) (hbs : z.bs.length ≤ 100000) (bb cap : Nat) (hbv : z.bv = .slice (some ⟨bb, 0, none⟩) z.bs.length cap) :
    CallsIn .wide 6 Tryz.prog 249 #[.pointer (some ⟨z.pk, 0, none⟩), .int .i64 (z0.bs.length : Int)] w fun e w' => e = .returned (.tuple #[]) ∧ ∃ jv, jv.ownBlock = z.jv.ownBlock ∧ Cz w' base l { z.with z0 jv with bv := .slice (some ⟨bb, 0, none⟩) z0.bs.length cap, bs := z0.bs } ∧ Kept z.Foot w w' := by
  have hml : z0.bs.length ≤ z.bs.length := by obtain ⟨r, hr⟩ := hc.bs; rw [hr]; simp
  generalize hm : z0.bs.length = m at *
  have k4 := h.k4
  rw [hbv] at k4
  have hcap : z.bs.length ≤ cap ∧ cap ≤ maxLen := by
    have hb := h.back
    rw [hbv] at hb
    rcases hb.2 with ⟨e, _⟩ | ⟨b, c, cur, e, _, _, h1, h2, _⟩
    · cases e
    · simp only [Value.slice.injEq] at e
      obtain ⟨_, _, rfl⟩ := e
      exact ⟨h1, h2⟩
  unfold maxLen at hcap
  obtain ⟨hc1, hc2⟩ := hcap
  obtain ⟨off, hoff, hsl⟩ : ∃ off, (m < z.bs.length → off = m) ∧ ∀ W, (Instr.slice 69 (.slice (some ⟨bb, 0, none⟩) z.bs.length cap) (some (.int .i64 (m : Int))) none none).run Tryz.prog W = .ok (.slice (some ⟨bb, off, none⟩) (z.bs.length - m) (cap - m)) W := by
    refine ⟨if cap = m then 0 else m, fun hlt => if_neg (by omega), fun W => ?_⟩
    have hsz : (sizeOf 1).run Tryz.prog W = .ok 1 W := by
      obtain ⟨i0, hi0, _, hz1, _⟩ := info_parts infoStepC
      simp [sizeOf, typeInfo, hi0, hz1]
    rw [run_slice_l W 69 _ _ _ (by kernel_rfl) .i64 (m : Int) (by omega) (by omega)]
    rw [show Tryz.prog.elem 69 = 1 from by kernel_rfl, hsz]
    simp only [Result.andThen, sliced, Int.toNat_natCast]
    by_cases e : cap = m
    · simp [e]
    · simp [e, Addr.add]
      exact fun h => h.symm
  have Hoff : Hid (m < z.bs.length → off = m) := hoff
  have HM : Hid (z0.bs.length = m) := hm
  clear hoff hm
  refine callsIn_of_wp_marks Tryz.func249 rfl trivial ?_ rfl
  simp only [Tryz.ntmps249, List.size_toArray, List.length_cons, List.length_nil, Nat.reduceAdd, Nat.reduceSub, Array.replicate_succ, Array.replicate_zero, List.push_toArray, List.append_toArray, List.nil_append, List.cons_append]
  gi_wp2_with fail
  refine ⟨trivial, (kBw_in .wide _ trivial rfl _ _ _ _).mono ?_⟩
  rintro e w' ⟨rfl, rfl⟩
  gi_wp2_with fail
  have K2 : Kept0 w (w.alloc (.cells #[.slice (some ⟨bb, off, none⟩) (z.bs.length - m) (cap - m)] 69)) := (Kept.refl _ w).alloc _
  have S2 : (w.alloc (.cells #[.slice (some ⟨bb, off, none⟩) (z.bs.length - m) (cap - m)] 69)).cell? ⟨w.heap.size, 0, none⟩ = some (.slice (some ⟨bb, off, none⟩) (z.bs.length - m) (cap - m)) := (made_row w #[.slice (some ⟨bb, off, none⟩) (z.bs.length - m) (cap - m)] 69).cell (i := 0) (by simp)
  have Z2 : (w.alloc (.cells #[.slice (some ⟨bb, off, none⟩) (z.bs.length - m) (cap - m)] 69)).heap.size = w.heap.size + 1 := by simp
  generalize (w.alloc (.cells #[.slice (some ⟨bb, off, none⟩) (z.bs.length - m) (cap - m)] 69)) = W0 at *
  have H0 := h.kept0 K2
  have hbl : bb < w.heap.size := (h.back.lt bb (by rw [hbv]; rfl)).2
  have nWb : ¬ z.Wr bb := fun e => e.2 (by rw [hbv]; rfl)
  have nWw : ¬ z.Wr w.heap.size := fun e => Nat.lt_irrefl _ (h.foot_lt e.1)
  have hst : ∀ j, j < z.bs.length - m → StepOf l z (z.bs[m + j]?.getD undef) := fun j hj => by
    have hlt : m + j < z.bs.length := by omega
    rw [List.getElem?_eq_getElem hlt]
    refine hc.steps _ ?_
    rw [HM.out]
    exact List.mem_drop_iff_getElem.2 ⟨j, by omega, by simp⟩
  have hSA : StepsAt W0.heap.size z.Wr W0 (.slice (some ⟨bb, off, none⟩) (z.bs.length - m) (cap - m)) (z.bs.length - m) (fun j => z.bs[m + j]?.getD undef) := by
    refine .inr ⟨bb, off, _, rfl, by omega, nWb, fun j hj => (hst j hj).form, fun j hj => ?_⟩
    rw [Hoff.out (by omega)]
    have hb := H0.back
    rw [hbv] at hb
    have := hb.cellAt (m + j) (by omega)
    rw [this]
    simp [List.getElem?_eq_getElem (show m + j < z.bs.length by omega)]
  refine wpIn_rangeFunc_ownH rfl (by omega) (gf := 258) (lb := #[.pointer (some ⟨w.heap.size, 0, none⟩)]) rfl trivial (enters_of Tryz.func258 (by kernel_rfl) rfl)
    (kBw_stops .wide 5 trivial rfl (by omega) w.heap.size W0.heap.size z.Wr _ (z.bs.length - m) (fun j => z.bs[m + j]?.getD undef) (by omega) W0 (by omega) nWw (Nat.le_refl _) S2 hSA)
    (fun a b => a.trans (b.mono fun k _ hk => hk)) (keptS_b (Nat.le_refl _)) (Below.refl _ _) (fun _ => rfl)
    (MidK W0 base l z z0 (z.bs.length - m)) (fun _ _ _ => False) (midK_own W0 base l z z0 (z.bs.length - m) H0) (fun _ _ _ _ _ hs _ _ => hs)
    ?start (fun x a' W => ∃ v13 v14 v15 v16, a' = { tmps := #[.pointer (some ⟨z.pk, 0, none⟩), .int .i64 m, undef, undef, undef, z.bs[m + x.1]?.getD undef, .pointer (some ⟨z.pk, 0, none⟩), .pointer (some ⟨z.pk, 0, none⟩), .pointer (some ⟨z.pk, 4, none⟩), .slice (some ⟨bb, 0, none⟩) z.bs.length cap, .int .i64 m, .slice (some ⟨bb, off, none⟩) (z.bs.length - m) (cap - m), .func (.func 258) #[] #[.pointer (some ⟨w.heap.size, 0, none⟩)], v13, v14, v15, v16, undef, undef, undef, undef, undef, undef, undef, undef, undef, undef, undef, undef, undef, undef, undef], defers := [] }) ?hAx ?assign ?body ?done ?stop
  case start => exact ⟨⟨z, z.jv, rfl, H0, fun _ => ⟨z, hc, .refl z, by simp, rfl, rfl, rfl, rfl, rfl, rfl⟩⟩, Kept.refl _ _⟩
  case hAx =>
    rintro x a' _ A B row ⟨v13, v14, v15, v16, rfl⟩ hg hr
    exact ⟨v13, v14, v15, v16, rfl⟩
  case assign =>
    rintro lx pre x W K hM hK
    simp only [encK]
    gi_wp2
    exact hK _ _ (KeepsFrom.refl _ _) (Kept.refl _ _) hM ⟨_, _, _, _, rfl⟩
  case body =>
    rintro lx pre x a' W hl _ hM ⟨v13, v14, v15, v16, rfl⟩ hlt
    obtain ⟨y, jv, h1, C, h3⟩ := hM.st
    obtain ⟨fn, ca, hf, hsh, CALL⟩ := step_call (z0 := z0) h1 C (hst x.1 x.2)
    rw [hf]
    have FIN : ∀ W' y' jv', jv'.ownBlock = z.jv.ownBlock → Cz W' base l (z.with y' jv') → Kept z.Wr W W' → (∀ zk, Chain l zk z → Chain l z0 zk → z0.bs.length < zk.bs.length → z.bs[zk.bs.length - 1]? = some (.func (.func fn) #[] ca) → y.uv = zk.uv → y.g = zk.g → y.t = zk.t → y.us = zk.us → y.kn = zk.kn → y.ms = zk.ms → ∃ b, Chain l z0 b ∧ Chain l b z ∧ b.bs.length + 1 = zk.bs.length ∧ y'.uv = b.uv ∧ y'.g = b.g ∧ y'.t = b.t ∧ y'.us = b.us ∧ y'.kn = b.kn ∧ y'.ms = b.ms) →
        KeepsFrom W0.heap.size W W' ∧ KeptS z.Wr W0.heap.size W W' ∧ MidK W0 base l z z0 (z.bs.length - m) (pre ++ [x]) W' := fun W' y' jv' hj' C' K' hright => by
      have KS : KeptS z.Wr W0.heap.size W W' := Kept.mono K' (fun k _ e => Or.inl e)
      refine ⟨⟨K'.size, fun i o hB hi ho => ?_⟩, KS, ⟨⟨y', jv', hj', C', fun hd => ?_⟩, hM.kept.trans KS⟩⟩
      · have hlt : i < W.heap.size := (Array.getElem?_eq_some_iff.1 hi).1
        rw [K'.block i hlt (fun e => by have := H0.foot_lt e.1; omega)]
        exact hi
      · have hpre : Down (z.bs.length - m) pre := by
          intro r hr
          have := hd r (by simp; omega)
          rwa [List.getElem_append_left hr] at this
        have hxr : x.1 + pre.length + 1 = z.bs.length - m := by simpa using hd pre.length (by simp)
        obtain ⟨zk, c1, c2, c3, e1, e2, e3, e4, e5, e6⟩ := h3 hpre
        have hmm := HM.out
        have hidx : z.bs[zk.bs.length - 1]? = some (.func (.func fn) #[] ca) := by
          have hx1 : zk.bs.length - 1 = m + x.1 := by omega
          rw [hx1, List.getElem?_eq_getElem (by omega)]
          rw [List.getElem?_eq_getElem (by omega)] at hf
          simpa using hf
        obtain ⟨b, b1, b2, b3, f1, f2, f3, f4, f5, f6⟩ := hright zk c2 c1 (by omega) hidx e1 e2 e3 e4 e5 e6
        exact ⟨b, b1, b2, by simp; omega, f1, f2, f3, f4, f5, f6⟩
    rcases hsh with ⟨rfl, p1, p2, rfl⟩ | ⟨rfl, p1, p2, p3, p4, rfl⟩
    · clear h3 C hM H0 h hc hst hSA
      gi_wp2_with fail
      refine ⟨trivial, (CallsIn.inRound lx (callsIn_wide.2 CALL)).mono ?_⟩
      rintro e W' ⟨rfl, y', jv', hj', C', K', hright⟩
      gi_wp2
      rw [hf] at hright
      exact FIN W' y' jv' hj' C' K' hright
    · clear h3 C hM H0 h hc hst hSA
      gi_wp2_with fail
      refine ⟨trivial, (CallsIn.inRound lx (callsIn_wide.2 CALL)).mono ?_⟩
      rintro e W' ⟨rfl, y', jv', hj', C', K', hright⟩
      gi_wp2
      rw [hf] at hright
      exact FIN W' y' jv' hj' C' K' hright
  case done =>
    rintro D ys W hD ⟨hd, hlen⟩ hM hK
    obtain ⟨y, jv, h1, C, h3⟩ := hM.st
    obtain ⟨zk, c1, c2, c3, e1, e2, e3, e4, e5, e6⟩ := h3 hd
    have hmm := HM.out
    obtain rfl : zk = z0 := c1.eq_of_len (by omega)
    have CW : Cz W base l (z.with zk jv) := by
      have e : z.with y jv = z.with zk jv := by unfold Zs.with; rw [e1, e2, e3, e4, e5, e6]
      rw [← e]
      exact C
    have hbv2 : (z.with zk jv).bv = .slice (some ⟨bb, 0, none⟩) z.bs.length cap := hbv
    have hbk := CW.back
    rw [hbv2] at hbk
    obtain ⟨W1, hr1, O1, K1⟩ := clear_back (hbk : W.ownsRow base 1 1 (.slice (some ⟨bb, 0, none⟩) z.bs.length cap) z.bs.length z.bs) hml Hoff.out 0
    have htk : z.bs.take m = zk.bs := by
      obtain ⟨r, hr⟩ := hc.bs
      rw [hr, ← hmm, List.take_left]
    have O1' : W1.ownsRow base 1 1 (.slice (some ⟨bb, 0, none⟩) m cap) zk.bs.length zk.bs := by
      have O2 : W1.ownsRow base 1 1 (.slice (some ⟨bb, 0, none⟩) m cap) m (z.bs.take m) := O1
      rw [htk] at O2
      rw [hmm]
      exact O2
    have K1' : Kept (fun k => (z.with zk jv).bv.ownBlock = some k) W W1 := Kept.mono K1 (fun k _ e => by rw [hbv2, e]; rfl)
    obtain ⟨C2, K3, c4, f4⟩ := CW.reback K1' (.slice (some ⟨bb, 0, none⟩) m cap) zk.bs O1' (by rw [hbv2]; rfl)
    rw [hbv2] at c4
    have c4' : W1.cell? ⟨z.pk, 4, none⟩ = some (.slice (some ⟨bb, 0, none⟩) z.bs.length cap) := c4
    have f4' : W1.frozen? ⟨z.pk, 4, none⟩ = false := f4
    have k4 := CW.k4
    rw [hbv2] at k4
    have k4' : W.cell? ⟨z.pk, 4, none⟩ = some (.slice (some ⟨bb, 0, none⟩) z.bs.length cap) := k4
    have hDW : D < W.heap.size := (Array.getElem?_eq_some_iff.1 hK).1
    have hpl := h.cls.lt
    have hKD : (W1.setCell ⟨z.pk, 4, none⟩ (.slice (some ⟨bb, 0, none⟩) m cap)).heap[D]? = W.heap[D]? := (Below.heap_setCell _ _ _ _ (show D ≠ z.pk by omega)).trans (K1.block D hDW (show ¬ D = bb by omega))
    have hmc : (m : Int) ≤ (cap : Int) := by omega
    have hall : ∀ k, Zs.All { z.with zk jv with bv := .slice (some ⟨bb, 0, none⟩) m cap, bs := zk.bs } k → k < w.heap.size := fun k hk => by
      refine h.all_lt (with_all (y := zk) h1 ?_)
      rcases hk with (e | e | e | e | e) | e | e
      · exact .inl (.inl e)
      · exact .inl (.inr (.inl e))
      · exact .inl (.inr (.inr (.inl e)))
      · exact .inl (.inr (.inr (.inr (.inl e))))
      · exact .inl (.inr (.inr (.inr (.inr (by rw [hbv2]; exact e)))))
      · exact .inr (.inl e)
      · exact .inr (.inr e)
    have ALL : Hid (_ ∧ _ ∧ _ ∧ _ ∧ _ ∧ _) := ⟨h1, C2, K3, hM.kept, hKD, hall⟩
    clear k4 h3 C CW hbk O1 O1' K1 K1' C2 K3 c4 f4 hM hKD hSA hst H0 hc c1 c2 htk h hall
    gi_wp2_with fail
    obtain ⟨h1', C2, K3, hMk, hKD, hall⟩ := ALL.out
    have hK' := hKD.trans hK
    have hG := grownBy_putObj' (W1.setCell ⟨z.pk, 4, none⟩ (.slice (some ⟨bb, 0, none⟩) m cap)) D (.deferred none)
    have KP : Kept (fun k => k = D) (W1.setCell ⟨z.pk, 4, none⟩ (.slice (some ⟨bb, 0, none⟩) m cap)) ((W1.setCell ⟨z.pk, 4, none⟩ (.slice (some ⟨bb, 0, none⟩) m cap)).putObj D (.deferred none)) := (Kept.refl _ _).grown hG (fun k e => by cases e; rfl)
    refine ⟨by simp, .inl ⟨_, _, rfl, run_takeDeferred (w := W1.setCell ⟨z.pk, 4, none⟩ (.slice (some ⟨bb, 0, none⟩) m cap)) hK', ?_⟩⟩
    have KA : Kept z.Foot w W := (Kept.mono K2 (fun _ _ e => e.elim)).into hMk (fun k e => e.elim (fun x => .inl x.1) (fun x => .inr (by omega)))
    have KB := (KA.into K3 (fun k e => .inl (with_foot h1' e))).into KP (fun k e => .inr (by omega))
    exact ⟨_, results_none rfl _ _ _, rfl, jv, h1', C2.keep KP (fun k hk e => by have := hall k hk; omega), KB⟩
  case stop =>
    rintro D c pre W _ _ h _
    exact h.elim

end Go.Proofs.YtlehlgipbhfioaaGreat

namespace Go.Proofs.YtlehlgipbhfioaaGreat
open Go.RowKit Go.Shelf
attribute [local go_sem] Oper.semAt_some

theorem clear_nil (W : World) : (Builtin.clear_ #[69] 0 #[.slice none 0 0]).run Tryz.prog W = .ok (.tuple #[]) W := by
  simp [Builtin.clear_]

set_option maxRecDepth 100000 in
set_option maxHeartbeats 4000000 in
theorem takeBack_nil (w : World) (base : Nat) (l : List Tm) (z : Zs) (h : Cz w base l z) (hbv : z.bv = .slice none 0 0) :
    CallsIn .wide 6 Tryz.prog 249 #[.pointer (some ⟨z.pk, 0, none⟩), .int .i64 0] w fun e w' => e = .returned (.tuple #[]) ∧ ∃ jv, jv.ownBlock = z.jv.ownBlock ∧ Cz w' base l { z.with z jv with bv := .slice none 0 0, bs := z.bs } ∧ Kept z.Foot w w' := by
  have hbs : z.bs = [] := by
    have hb := h.back
    rw [hbv] at hb
    rcases hb.2 with hh | ⟨b, c, cur, hh, _⟩
    · exact List.length_eq_zero_iff.1 hh.2
    · exact absurd (Value.slice.inj hh).1 (by simp)
  have k4 := h.k4
  rw [hbv] at k4
  refine callsIn_of_wp_marks Tryz.func249 rfl trivial ?_ rfl
  simp only [Tryz.ntmps249, List.size_toArray, List.length_cons, List.length_nil, Nat.reduceAdd, Nat.reduceSub, Array.replicate_succ, Array.replicate_zero, List.push_toArray, List.append_toArray, List.nil_append, List.cons_append]
  gi_wp2_with fail
  refine ⟨trivial, (kBw_in .wide _ trivial rfl _ _ _ _).mono ?_⟩
  rintro e w' ⟨rfl, rfl⟩
  gi_wp2_with fail
  have K2 : Kept0 w (w.alloc (.cells #[.slice none 0 0] 69)) := (Kept.refl _ w).alloc _
  have S2 : (w.alloc (.cells #[.slice none 0 0] 69)).cell? ⟨w.heap.size, 0, none⟩ = some (.slice none 0 0) := (made_row w #[.slice none 0 0] 69).cell (i := 0) (by simp)
  have Z2 : (w.alloc (.cells #[.slice none 0 0] 69)).heap.size = w.heap.size + 1 := by simp
  generalize (w.alloc (.cells #[.slice none 0 0] 69)) = W0 at *
  have H0 := h.kept0 K2
  have nWw : ¬ z.Wr w.heap.size := fun e => Nat.lt_irrefl _ (h.foot_lt e.1)
  have hSA : StepsAt W0.heap.size z.Wr W0 (.slice none 0 0) 0 (fun _ => undef) := .inl ⟨rfl, rfl⟩
  refine wpIn_rangeFunc_ownH rfl (by omega) (gf := 258) (lb := #[.pointer (some ⟨w.heap.size, 0, none⟩)]) rfl trivial (enters_of Tryz.func258 (by kernel_rfl) rfl)
    (kBw_stops .wide 5 trivial rfl (by omega) w.heap.size W0.heap.size z.Wr _ 0 (fun _ => undef) (by omega) W0 (by omega) nWw (Nat.le_refl _) S2 hSA)
    (fun a b => a.trans (b.mono fun k _ hk => hk)) (keptS_b (Nat.le_refl _)) (Below.refl _ _) (fun _ => rfl)
    (MidK W0 base l z z 0) (fun _ _ _ => False) (midK_own W0 base l z z 0 H0) (fun _ _ _ _ _ hs _ _ => hs)
    ?start (fun x a' W => False) ?hAx ?assign ?body ?done ?stop
  case start => exact ⟨⟨z, z.jv, rfl, H0, fun _ => ⟨z, .refl z, .refl z, by simp, rfl, rfl, rfl, rfl, rfl, rfl⟩⟩, Kept.refl _ _⟩
  case hAx =>
    rintro x _ _ _ _ _ hf _ _
    exact hf.elim
  case assign =>
    rintro lx pre x W K hM hK
    exact absurd x.2 (Nat.not_lt_zero _)
  case body =>
    rintro lx pre x a' W hl _ hM hf hlt
    exact hf.elim
  case done =>
    rintro D ys W hD ⟨hd, hlen⟩ hM hK
    obtain ⟨y, jv, h1, C, h3⟩ := hM.st
    obtain ⟨zk, c1, c2, c3, e1, e2, e3, e4, e5, e6⟩ := h3 hd
    have hzk : z = zk := c2.eq_of_len (by have := c2.bs; obtain ⟨r, hr⟩ := this; rw [hbs] at hr; have := congrArg List.length hr; simp at this; rw [hbs]; simp; omega)
    subst hzk
    have CW : Cz W base l (z.with z jv) := by
      have e : z.with y jv = z.with z jv := by unfold Zs.with; rw [e1, e2, e3, e4, e5, e6]
      rw [← e]
      exact C
    obtain ⟨C2, K3, c4, f4⟩ := CW.reback (Kept.refl _ W) (.slice none 0 0) z.bs (by rw [hbs]; exact World.ownsRow_nil _ _ _ _) (by show none = z.bv.ownBlock; rw [hbv]; rfl)
    have ejv : z.with z jv = { z with jv := jv } := rfl
    have c4' : W.cell? ⟨z.pk, 4, none⟩ = some (.slice none 0 0) := c4.trans (congrArg some hbv)
    have f4' : W.frozen? ⟨z.pk, 4, none⟩ = false := f4
    have hDW : D < W.heap.size := (Array.getElem?_eq_some_iff.1 hK).1
    have hpl := h.cls.lt
    have hKD : (W.setCell ⟨z.pk, 4, none⟩ (.slice none 0 0)).heap[D]? = W.heap[D]? := Below.heap_setCell _ _ _ _ (show D ≠ z.pk by omega)
    have ALL : Hid (_ ∧ _ ∧ _ ∧ _ ∧ _) := ⟨h1, C2, K3, hM.kept, hKD⟩
    have hr1 : (Builtin.clear_ #[69] 0 #[.slice none 0 0]).run Tryz.prog W = .ok (.tuple #[]) W := clear_nil W
    have HH : Hid (Cz w base l z) := h
    clear h3 C CW C2 K3 c4 f4 hM hKD hSA H0 c1 c2 h k4
    gi_wp2_with fail
    obtain ⟨h1', C2, K3, hMk, hKD⟩ := ALL.out
    have hK' := hKD.trans hK
    have hG := grownBy_putObj' (W.setCell ⟨z.pk, 4, none⟩ (.slice none 0 0)) D (.deferred none)
    have KP : Kept (fun k => k = D) (W.setCell ⟨z.pk, 4, none⟩ (.slice none 0 0)) ((W.setCell ⟨z.pk, 4, none⟩ (.slice none 0 0)).putObj D (.deferred none)) := (Kept.refl _ _).grown hG (fun k e => by cases e; rfl)
    refine ⟨by simp, .inl ⟨_, _, rfl, run_takeDeferred (w := W.setCell ⟨z.pk, 4, none⟩ (.slice none 0 0)) hK', ?_⟩⟩
    have KA : Kept z.Foot w W := (Kept.mono K2 (fun _ _ e => e.elim)).into hMk (fun k e => e.elim (fun x => .inl x.1) (fun x => .inr (by omega)))
    have KB := (KA.into K3 (fun k e => .inl (with_foot h1' e))).into KP (fun k e => .inr (by omega))
    have hall : ∀ k, Zs.All { z.with z jv with bv := .slice none 0 0, bs := z.bs } k → k < w.heap.size := fun k hk => by
      refine HH.out.all_lt (with_all (y := z) h1' ?_)
      rcases hk with (e | e | e | e | e) | e | e
      · exact .inl (.inl e)
      · exact .inl (.inr (.inl e))
      · exact .inl (.inr (.inr (.inl e)))
      · exact .inl (.inr (.inr (.inr (.inl e))))
      · exact absurd e (by simp [Value.ownBlock])
      · exact .inr (.inl e)
      · exact .inr (.inr e)
    exact ⟨_, results_none rfl _ _ _, rfl, jv, h1', C2.keep KP (fun k hk e => by have := hall k hk; omega), KB⟩
  case stop =>
    rintro D c pre W _ _ h _
    exact h.elim

/-- takeBack: any row of steps. -/
theorem takeBack_all (w : World) (base : Nat) (l : List Tm) (z z0 : Zs) (h : Cz w base l z) (hc : Chain l z0 z) (hbs : z.bs.length ≤ 100000) :
    CallsIn .wide 6 Tryz.prog 249 #[.pointer (some ⟨z.pk, 0, none⟩), .int .i64 (z0.bs.length : Int)] w fun e w' => e = .returned (.tuple #[]) ∧ ∃ jv bv, jv.ownBlock = z.jv.ownBlock ∧ bv.ownBlock = z.bv.ownBlock ∧ Cz w' base l { z.with z0 jv with bv := bv, bs := z0.bs } ∧ Kept z.Foot w w' := by
  rcases h.back.2 with hh | ⟨bb, cap, cur, hh, _⟩
  · have e0 : z.bs = [] := List.length_eq_zero_iff.1 hh.2
    have e1 : z0.bs = [] := by
      obtain ⟨r, hr⟩ := hc.bs
      rw [e0] at hr
      exact (List.append_eq_nil_iff.1 hr.symm).1
    have hz : z = z0 := hc.eq_of_len (by rw [e0, e1])
    subst hz
    rw [e0]
    refine (takeBack_nil w base l z h hh.1).mono ?_
    rintro e w' ⟨rfl, jv, h1, C, K⟩
    rw [e0] at C
    exact ⟨rfl, jv, _, h1, by rw [hh.1], C, K⟩
  · refine (takeBack_in w base l z z0 h hc hbs bb cap hh).mono ?_
    rintro e w' ⟨rfl, jv, h1, C, K⟩
    exact ⟨rfl, jv, _, h1, by rw [hh]; rfl, C, K⟩

end Go.Proofs.YtlehlgipbhfioaaGreat

namespace Go.Proofs.YtlehlgipbhfioaaGreat
open Go.RowKit Go.Shelf

section
variable {P : Program} {l n : Nat} {Q : Exit → Act → World → Prop}

theorem calls_round {f : FuncId} {args : Array Value} {w : World} {R : Ending → World → Prop} (h : Calls P f args w R) : CallsIn (Fence.wide.inRound l) n P f args w R := CallsIn.inRound l (callsIn_wide.2 h)
theorem rows_round {row : String} {args : Array Value} {w : World} {R : Value → World → Prop} (h : Rows P row args w R) : RowsIn (Fence.wide.inRound l) n P row args w R := fun c cs _ => by
  obtain ⟨v, w', hr, hs⟩ := h c cs
  exact ⟨v, w', hr, stepsIn_wide.2 hs⟩

theorem upon_round {o : Oper} {a : Act} {next : Act → World → Prop} : ∀ {r : Result Next}, o.upon P a next Q r → o.uponIn (Fence.wide.inRound l) n P a next Q r
  | .ok (.value _) _, h => h
  | .ok .skip _, h => h
  | .ok (.defer _) _, h => h
  | .ok (.enter _ _) _, h => ⟨fun e => by simp [Fence.wide] at e, calls_round h⟩
  | .ok (.row _ _) _, h => ⟨fun e => by simp [Fence.wide] at e, rows_round h⟩
  | .ok (.round _ _ _ _ _) _, h => False.elim h
  | .ok .recover _, h => False.elim h
  | .ok (.spawn _) _, h => False.elim h
  | .ok (.comm _ _ _) _, h => False.elim h
  | .halt (.panic _) _, h => h
  | .halt (.exit _) _, h => False.elim h
  | .halt (.unsupported _) _, h => False.elim h
  | .halt (.stuck _) _, h => False.elim h

theorem op_round {ops : Array Oper} (hno : ∀ o ∈ ops, ∀ c, o.op ≠ .defer c) (hQ : ¬ LetsOut Q) {i : Nat} {K : Act → World → Prop} {a : Act} {w : World} (h : wpOp P ops Q i K a w) : wpOpIn (Fence.wide.inRound l) n P ops Q i K a w := by
  unfold wpOp at h
  unfold wpOpIn
  cases ho : ops[i]? with
  | none => rw [ho] at h; exact h
  | some o =>
    rw [ho] at h
    simp only at h ⊢
    have hm : o ∈ ops := Array.mem_of_getElem? ho
    by_cases hw : Region.wanted o (yielded ops a.tmps) = true
    · rw [if_pos hw] at h ⊢
      rcases h with h | h
      · refine ⟨fun _ _ => trivial, ?_⟩
        rw [show (Fence.wide.inRound l).round = some l from rfl, Oper.semAt_some l _ _ (hno o hm)]
        exact upon_round h
      · exact absurd h.2 hQ
    · rw [if_neg hw] at h ⊢
      exact ⟨fun _ _ => trivial, h⟩

theorem any_round {md : Region.Mode} {ops : Array Oper} (hno : ∀ o ∈ ops, ∀ c, o.op ≠ .defer c) (hQ : ¬ LetsOut Q) : ∀ (fuel : Nat) (listed : Array Bool) (a : Act) (w : World), wpAny P md ops Q fuel listed a w → wpAnyIn (Fence.wide.inRound l) n P md ops Q fuel listed a w
  | 0, _, _, _, h => h
  | fuel + 1, _, _, _, h => ⟨h.1, fun i hi => wpOpIn_mono (fun a w hh => any_round hno hQ fuel _ a w hh) (op_round hno hQ (h.2 i hi))⟩

end

def isDefer : Op → Bool
  | .defer _ => true
  | _ => false

/-- A region that draws its order, in a round. -/
theorem region_round {l n id : Nat} {Q : Exit → Act → World → Prop} {ops : Array Oper} {a : Act} {w : World} (hno : ops.any (fun o => isDefer o.op) = false) (hQ : ¬ LetsOut Q) (h : wpAny Tryz.prog .any ops Q ops.size (Array.replicate ops.size false) a w.drew) :
    (Code.region id ops true).wpIn (Fence.wide.inRound l) n Tryz.prog Q a w :=
  wpIn_region_any (by kernel_rfl) (any_round (fun o ho c e => by
    have := Array.any_eq_false.1 hno
    obtain ⟨i, hi, rfl⟩ := Array.getElem_of_mem ho
    have h2 := this i hi
    rw [e] at h2
    simp [isDefer] at h2) hQ _ _ _ _ h)

/-- One may walk there from where nothing is done. -/
theorem any_of {X : Prop} (w : World) (h : Code.wp Tryz.prog (Code.region 0 #[{ dst := none, op := Op.call { callee := Callee.builtin Builtin.append, args := #[], argTypes := #[] }, type := 0, pos := "", after := #[], guard := some (0, true) }] true) (fun _ _ _ => X) { tmps := #[], defers := [] } w) : X := by
  obtain ⟨_, _, _, hx, _⟩ := h (Frame.enter Tryz.prog 0 #[] .normal) [] []
  exact hx
theorem redirect {X : Prop} {Q : Exit → Act → World → Prop} {a : Act} {w : World} {K : Act → World → Prop}
    (hK : ∀ a w, wpAny Tryz.prog .any #[{ dst := none, op := Op.call { callee := Callee.builtin Builtin.append, args := #[], argTypes := #[] }, type := 0, pos := "", after := #[], guard := some (0, true) }] (fun _ _ _ => X) 0 (Array.setIfInBounds (Array.replicate 1 false) 0 true) a w → K a w) (h : X) :
    if Region.wanted { dst := none, op := Op.call { callee := Callee.builtin Builtin.append, args := #[], argTypes := #[] }, type := 0, pos := "", after := #[], guard := some (0, true) } (yielded #[{ dst := none, op := Op.call { callee := Callee.builtin Builtin.append, args := #[], argTypes := #[] }, type := 0, pos := "", after := #[], guard := some (0, true) }] a.tmps) = true then Oper.wp Tryz.prog { dst := none, op := Op.call { callee := Callee.builtin Builtin.append, args := #[], argTypes := #[] }, type := 0, pos := "", after := #[], guard := some (0, true) } a w K Q else K (a.put none undef) w := by
  rw [if_neg (by simp [Region.wanted, yielded])]
  exact hK _ _ ⟨by kernel_rfl, h⟩

end Go.Proofs.YtlehlgipbhfioaaGreat
