/- Package logic: equality. -/
import Derived.Test.YtinphcnknionmabP33
namespace Go.Proofs.Ytinphcnknionmab
open Go.RowKit Go.Maps

/-- What a function that reads a formula leaves. -/
def FoPost (base r p nb fb : Nat) (s : ByteArray) (d : Nat) (w : World) (ev : Value) : Res Fo → Ending → World → Prop
  | .ok f k l', e, w' => ∃ v, e = .returned v ∧ FVal w.heap.size w' v f ∧ ∃ ev', PB w' base r p ev' nb fb s k d l' ∧ Grew (fun k => k = r) p nb fb w ev w' ev'
  | .bad c q l', e, w' => e = .panicked [{ v := grefusalV c q, recovered := false }] ∧ ∃ ev' k d', PB w' base r p ev' nb fb s k d' l' ∧ Grew (fun k => k = r) p nb fb w ev w' ev'

/-- The place is another one. -/
theorem PB.step {w : World} {base r p : Nat} {ev : Value} {nb fb : Nat} {s : ByteArray} {i d : Nat} {l : List Tm} (h : PB w base r p ev nb fb s i d l) {k : Nat} (hk : k ≤ s.size) :
    PB (w.setCell ⟨r, 2, none⟩ (.int .i64 (k : Int))) base r p ev nb fb s k d l ∧ Grew (fun k => k = r) p nb fb w ev (w.setCell ⟨r, 2, none⟩ (.int .i64 (k : Int))) ev :=
  h.read (Kept1.set (Kept.refl _ w) 2 _) (h.lp.step hk)
theorem PB.deep {w : World} {base r p : Nat} {ev : Value} {nb fb : Nat} {s : ByteArray} {i d : Nat} {l : List Tm} (h : PB w base r p ev nb fb s i d l) (e : Nat) :
    PB (w.setCell ⟨r, 3, none⟩ (.int .u64 (e : Int))) base r p ev nb fb s i e l ∧ Grew (fun k => k = r) p nb fb w ev (w.setCell ⟨r, 3, none⟩ (.int .u64 (e : Int))) ev :=
  h.read (Kept1.set (Kept.refl _ w) 3 _) (h.lp.deep e)

/-- must, told of parser and bank. -/
theorem must_at (w : World) (base r p : Nat) (ev : Value) (nb fb : Nat) (s : ByteArray) (i d : Nat) (l : List Tm) (h : PB w base r p ev nb fb s i d l) (c : Nat) (hst : stands s i c = true) :
    Calls Try.prog 59 #[.pointer (some ⟨r, 0, none⟩), .int .u8 (c : Int)] w fun e w' => e = .returned (.tuple #[]) ∧ PB w' base r p ev nb fb s (bl s (i + 1)) d l ∧ Grew (fun k => k = r) p nb fb w ev w' ev :=
  (must_yes w r _ s i d h.lp c hst).mono (by rintro e w' ⟨h1, h2, h3⟩; exact ⟨h1, h.read h3 h2⟩)
theorem must_bad (w : World) (base r p : Nat) (ev : Value) (nb fb : Nat) (s : ByteArray) (i d : Nat) (l : List Tm) (h : PB w base r p ev nb fb s i d l) (c : Nat) (hc : c ≠ 0) (hst : stands s i c = false) :
    Calls Try.prog 59 #[.pointer (some ⟨r, 0, none⟩), .int .u8 (c : Int)] w fun e w' => e = .panicked [{ v := grefusalV 2 (i : Int), recovered := false }] ∧ PB w' base r p ev nb fb s i d l ∧ Grew (fun k => k = r) p nb fb w ev w' ev :=
  (must_no w r _ s i d h.lp c hc hst).mono (by rintro e w' ⟨h1, h2⟩; exact ⟨h1, h.kept0 h2⟩)
theorem next_at (w : World) (base r p : Nat) (ev : Value) (nb fb : Nat) (s : ByteArray) (i d : Nat) (l : List Tm) (h : PB w base r p ev nb fb s i d l) :
    Calls Try.prog 57 #[.pointer (some ⟨r, 0, none⟩)] w fun e w' => e = .returned (.int .u8 (byt s i : Int)) ∧ PB w' base r p ev nb fb s i d l ∧ Grew (fun k => k = r) p nb fb w ev w' ev :=
  (next_k w r _ s i d h.lp).mono (by rintro e w' ⟨h1, h2⟩; exact ⟨h1, h.kept0 h2⟩)

theorem rowIs_keep {B : Nat} {W W' : World} (K : FKeep B W W') {b n : Nat} {f : Nat → Value} (hb : B ≤ b) (h : W.rowIs b 31 n f) : W'.rowIs b 31 n f := by
  obtain ⟨c, h1, h2⟩ := h
  exact ⟨c, K b c (0, 0) hb h1, h2⟩
/-- A block of Forms is another one than the parser's and the bank's. -/
theorem PB.setForm {w : World} {base r p : Nat} {ev : Value} {nb fb : Nat} {s : ByteArray} {i d : Nat} {l : List Tm} (h : PB w base r p ev nb fb s i d l) {b n : Nat} {f : Nat → Value} (hb : w.rowIs b 31 n f) (o : Nat) (u : Value) : PB (w.setCell ⟨b, o, none⟩ u) base r p ev nb fb s i d l := by
  obtain ⟨c, hc, _⟩ := hb
  have K : Kept1 b w (w.setCell ⟨b, o, none⟩ u) := Kept1.set (Kept.refl _ w) o u
  have n1 : r ≠ b := fun e => rowIs_ne h.lp.row (by decide) c (0, 0) (e ▸ hc)
  exact ⟨h.lp.of_block (K.block r h.lp.row.lt n1), h.bk.kept1 K (fun e => h.bk.noForm (Or.inl rfl) c (0, 0) (e ▸ hc)) (fun e => h.bk.noForm (Or.inr (Or.inl rfl)) c (0, 0) (e ▸ hc)) (fun e => h.bk.noForm (Or.inr (Or.inr (Or.inl rfl))) c (0, 0) (e ▸ hc)) (fun e => h.bk.noForm (Or.inr (Or.inr (Or.inr e))) c (0, 0) hc), h.rp, h.rn, h.rf, h.er, Nat.le_trans h.bs K.size, h.few⟩
theorem Grew.fresh {X : Nat → Prop} {p nb fb : Nat} {a b : World} {ea eb : Value} (h : Grew X p nb fb a ea b eb) {x : Nat} (hx : a.heap.size ≤ x) (o : Nat) (u : Value) : Grew X p nb fb a ea (b.setCell ⟨x, o, none⟩ u) eb := by
  refine ⟨⟨h.kept.os, h.kept.tape, h.kept.output, ?_, fun k hk hs => ?_⟩, h.row⟩
  · have := h.kept.size
    simp [World.setCell]
    exact this
  · rw [Below.heap_setCell _ _ _ _ (by show k ≠ x; omega)]
    exact h.kept.block k hk hs

/-- A Form in a box. -/
def frm (v0 v1 v2 v3 : Value) (j : Nat) : Value := if j = 0 then v0 else if j = 1 then v1 else if j = 2 then v2 else v3
/-- Another Form is put into a box. -/
abbrev put4 (w : World) (b : Nat) (v0 v1 v2 v3 : Value) : World := (((w.setCell ⟨b, 0, none⟩ v0).setCell ⟨b, 1, none⟩ v1).setCell ⟨b, 2, none⟩ v2).setCell ⟨b, 3, none⟩ v3

theorem made_form (w : World) (v0 v1 v2 v3 : Value) : (w.alloc (.cells #[v0, v1, v2, v3] 31)).rowIs w.heap.size 31 4 (frm v0 v1 v2 v3) :=
  World.rowIs.congr (made_row w #[v0, v1, v2, v3] 31) (fun j hj => by
    have hj' : j < 4 := hj
    rcases (by omega : j = 0 ∨ j = 1 ∨ j = 2 ∨ j = 3) with rfl | rfl | rfl | rfl <;> rfl)
theorem put_form {w : World} {b : Nat} {f : Nat → Value} (h : w.rowIs b 31 4 f) (v0 v1 v2 v3 : Value) : (put4 w b v0 v1 v2 v3).rowIs b 31 4 (frm v0 v1 v2 v3) :=
  World.rowIs.congr ((((h.set 0 v0).set 1 v1).set 2 v2).set 3 v3) (fun j hj => by
    rcases (by omega : j = 0 ∨ j = 1 ∨ j = 2 ∨ j = 3) with rfl | rfl | rfl | rfl <;> simp [frm])
theorem put_keep {w : World} {b B : Nat} (hb : b < B) (v0 v1 v2 v3 : Value) : FKeep B w (put4 w b v0 v1 v2 v3) :=
  (((FKeep.setCell w hb 0 v0).trans (FKeep.setCell _ hb 1 v1)).trans (FKeep.setCell _ hb 2 v2)).trans (FKeep.setCell _ hb 3 v3)
theorem PB.put4 {w : World} {base r p : Nat} {ev : Value} {nb fb : Nat} {s : ByteArray} {i d : Nat} {l : List Tm} (h : PB w base r p ev nb fb s i d l) {b : Nat} {f : Nat → Value} (hb : w.rowIs b 31 4 f) (v0 v1 v2 v3 : Value) : PB (put4 w b v0 v1 v2 v3) base r p ev nb fb s i d l :=
  (((h.setForm hb 0 v0).setForm (hb.set 0 v0) 1 v1).setForm ((hb.set 0 v0).set 1 v1) 2 v2).setForm (((hb.set 0 v0).set 1 v1).set 2 v2) 3 v3
theorem Grew.put4 {X : Nat → Prop} {p nb fb : Nat} {a w : World} {ea eb : Value} (h : Grew X p nb fb a ea w eb) {b : Nat} (hb : a.heap.size ≤ b) (v0 v1 v2 v3 : Value) : Grew X p nb fb a ea (put4 w b v0 v1 v2 v3) eb :=
  (((h.fresh hb 0 v0).fresh hb 1 v1).fresh hb 2 v2).fresh hb 3 v3
theorem form_cells {w : World} {b : Nat} {v0 v1 v2 v3 : Value} (h : w.rowIs b 31 4 (frm v0 v1 v2 v3)) : w.cell? ⟨b, 0, none⟩ = some v0 ∧ w.cell? ⟨b, 1, none⟩ = some v1 ∧ w.cell? ⟨b, 2, none⟩ = some v2 ∧ w.cell? ⟨b, 3, none⟩ = some v3 :=
  ⟨h.cell (i := 0) (by omega), h.cell (i := 1) (by omega), h.cell (i := 2) (by omega), h.cell (i := 3) (by omega)⟩

set_option maxRecDepth 100000 in
set_option maxHeartbeats 1000000 in
theorem equality_in (w : World) (base r p : Nat) (ev : Value) (nb fb : Nat) (s : ByteArray) (i d : Nat) (l : List Tm) (h : PB w base r p ev nb fb s i d l) :
    Calls Try.prog 68 #[.pointer (some ⟨r, 0, none⟩)] w (FoPost base r p nb fb s d w ev (gEqu s i l)) := by
  have hle := h.lp.le
  have hsm := h.lp.small
  have A1 := fun (o : Obj) => h.kept0 (Kept.alloc (Kept.refl _ w) o)
  have T1 := fun (o : Obj) => lterm_in (w.alloc o) base r p ev nb fb s i d l (A1 o).1
  go_enter Try.func68, Try.ntmps68
  unfold gEqu
  cases h1 : lTerm s i l with
  | bad c q l1 =>
    rw [h1] at T1
    go_wp2_with (first | (go_at_call 69; refine (T1 _).mono ?_; rintro e w2 ⟨rfl, ev2, k2, P2, G2⟩))
    exact ⟨rfl, rfl, ev2, k2, d, P2, (A1 _).2.trans G2⟩
  | ok a k l1 =>
    rw [h1] at T1
    obtain ⟨hk1, hk2⟩ := lTerm_ok hle h1
    simp only [Res.bind]
    by_cases h33 : byt s k = 33
    · simp only [h33, if_true]
      have d33 : ((byt s k : Int) == 33) = true := by simp; omega
      have hk0 := byt_in h33 (by omega)
      cases hs : stands s (k + 1) 61 with
      | false =>
        rw [if_neg (by simp)]
        go_wp2_with (first | (go_at_call 69; refine (T1 _).mono ?_; clear T1; rintro e w2 ⟨rfl, ev2, P2, G2⟩; have NX := next_at w2 base r p ev2 nb fb s k d l1 P2) | (go_at_call 57; refine NX.mono ?_; rintro e w3 ⟨rfl, P3, G3⟩; have d2 := P3.lp.c2; have f2 := P3.lp.row.frozen 2; have P3' := P3.step (k := k + 1) (by omega); rw [show ((k + 1 : Nat) : Int) = (k : Int) + 1 from by omega] at P3'; have MU := must_bad _ base r p ev2 nb fb s (k + 1) d l1 P3'.1 61 (by omega) hs) | (go_at_call 59; refine MU.mono ?_; rintro e w4 ⟨rfl, P4, G4⟩))
        exact ⟨rfl, by simp [grefusalV], ev2, _, d, P4, ((((A1 _).2.trans G2).trans G3).trans P3'.2).trans G4⟩
      | true =>
        rw [if_pos rfl]
        have hk3 := (of_decide_eq_true hs).1
        have hbl := bl_le (s := s) (i := k + 1 + 1) (by omega)
        cases h2 : lTerm s (bl s (k + 1 + 1)) l1 with
        | bad c q l2 =>
          go_wp2_with (first | (go_at_call 69; refine T2.mono ?_; rintro e w5 ⟨rfl, ev5, k5, P5, G5⟩) | (go_at_call 69; refine (T1 _).mono ?_; clear T1; rintro e w2 ⟨rfl, ev2, P2, G2⟩; have NX := next_at w2 base r p ev2 nb fb s k d l1 P2) | (go_at_call 57; refine NX.mono ?_; rintro e w3 ⟨rfl, P3, G3⟩; have d2 := P3.lp.c2; have f2 := P3.lp.row.frozen 2; have P3' := P3.step (k := k + 1) (by omega); rw [show ((k + 1 : Nat) : Int) = (k : Int) + 1 from by omega] at P3'; have MU := must_at _ base r p ev2 nb fb s (k + 1) d l1 P3'.1 61  hs) | (go_at_call 59; refine MU.mono ?_; rintro e w4 ⟨rfl, P4, G4⟩; have T2 := lterm_in w4 base r p ev2 nb fb s (bl s (k + 1 + 1)) d l1 P4; rw [h2] at T2))
          exact ⟨rfl, rfl, ev5, k5, d, P5, (((((A1 _).2.trans G2).trans G3).trans P3'.2).trans G4).trans G5⟩
        | ok b k2 l2 =>
          go_wp2_with (first | (go_at_call 69; refine T2.mono ?_; rintro e w5 ⟨rfl, ev5, P5, G5⟩; have F5 := rowIs_keep ((((A1 _).1.fkeep G2 w.heap.size).trans (((P2.fkeep G3 w.heap.size).trans (P3.fkeep P3'.2 _)).trans (P3'.1.fkeep G4 _))).trans (P4.fkeep G5 _)) (Nat.le_refl _) (made_form w (.int .i64 0) (.int .i64 0) (.int .i64 0) (.slice none 0 0)); obtain ⟨z0, z1, z2, z3⟩ := form_cells F5; have y0 := World.rowIs.frozen F5 0; have y1 := World.rowIs.frozen F5 1; have y2 := World.rowIs.frozen F5 2; have y3 := World.rowIs.frozen F5 3; have hlt := World.rowIs.lt F5) | (go_at_call 69; refine (T1 _).mono ?_; clear T1; rintro e w2 ⟨rfl, ev2, P2, G2⟩; have NX := next_at w2 base r p ev2 nb fb s k d l1 P2) | (go_at_call 57; refine NX.mono ?_; rintro e w3 ⟨rfl, P3, G3⟩; have d2 := P3.lp.c2; have f2 := P3.lp.row.frozen 2; have P3' := P3.step (k := k + 1) (by omega); rw [show ((k + 1 : Nat) : Int) = (k : Int) + 1 from by omega] at P3'; have MU := must_at _ base r p ev2 nb fb s (k + 1) d l1 P3'.1 61  hs) | (go_at_call 59; refine MU.mono ?_; rintro e w4 ⟨rfl, P4, G4⟩; have T2 := lterm_in w4 base r p ev2 nb fb s (bl s (k + 1 + 1)) d l1 P4; rw [h2] at T2))
          have K6 := P5.kept0 (Kept.alloc (Kept.refl _ w5) (.cells #[.int .i64 0, .int .i64 (a : Int), .int .i64 (b : Int), .slice none 0 0] 31))
          have F6 := rowIs_keep (FKeep.alloc w.heap.size w5 (.cells #[.int .i64 0, .int .i64 (a : Int), .int .i64 (b : Int), .slice none 0 0] 31)) (Nat.le_refl _) F5
          have NG := negation_in (w5.alloc (.cells #[.int .i64 0, .int .i64 (a : Int), .int .i64 (b : Int), .slice none 0 0] 31)) (w.heap.size + 1) _ _ (FVal.eq (w.heap.size + 1) _ (a : Int) (b : Int)) (by simp; omega)
          clear z0 z1 z2 z3 y0 y1 y2 y3 T2 MU NX d2 f2
          go_wp2_with (first | (go_at_call 66; refine NG.mono ?_; rintro e w6 ⟨u, rfl, V6, KK6⟩; obtain ⟨op6, x6, y6, a6, n6, cap6, rfl⟩ := V6.form; have P7 := K6.1.kept0 KK6; have F7 := rowIs_keep (FKeep.kept0 KK6 w.heap.size) (Nat.le_refl _) F6; obtain ⟨z0, z1, z2, z3⟩ := form_cells F7; have t0 := World.rowIs.frozen F7 0; have t1 := World.rowIs.frozen F7 1; have t2 := World.rowIs.frozen F7 2; have t3 := World.rowIs.frozen F7 3))
          have F8 := put_form F7 (.int .i64 op6) (.int .i64 x6) (.int .i64 y6) (.slice a6 n6 cap6)
          have P8 := P7.1.put4 F7 (.int .i64 op6) (.int .i64 x6) (.int .i64 y6) (.slice a6 n6 cap6)
          have V8 := (V6.keep (put_keep (Nat.lt_succ_self w.heap.size) (.int .i64 op6) (.int .i64 x6) (.int .i64 y6) (.slice a6 n6 cap6))).mono (Nat.le_succ _)
          have G8 := (((((((((A1 _).2.trans G2).trans G3).trans P3'.2).trans G4).trans G5).trans K6.2).trans P7.2)).put4 (Nat.le_refl w.heap.size) (.int .i64 op6) (.int .i64 x6) (.int .i64 y6) (.slice a6 n6 cap6)
          clear z0 z1 z2 z3 t0 t1 t2 t3
          obtain ⟨z0, z1, z2, z3⟩ := form_cells F8
          unfold Go.Proofs.Ytinphcnknionmab.put4 at F8 P8 V8 G8 z0 z1 z2 z3
          generalize ((((w6).setCell ⟨w.heap.size, 0, none⟩ (.int .i64 op6)).setCell ⟨w.heap.size, 1, none⟩ (.int .i64 x6)).setCell ⟨w.heap.size, 2, none⟩ (.int .i64 y6)).setCell ⟨w.heap.size, 3, none⟩ (.slice a6 n6 cap6) = w8 at P8 V8 G8 z0 z1 z2 z3 ⊢
          refine ⟨rfl, .agg #[.int .i64 op6, .int .i64 x6, .int .i64 y6, .slice a6 n6 cap6], by simp [results, Try.results68, go_sem, z0, z1, z2, z3], ?_⟩
          exact ⟨_, rfl, V8, ev5, P8, G8⟩
    · simp only [h33, if_false]
      have d33 : ((byt s k : Int) == 33) = false := by simp; omega
      cases hs : stands s (k) 61 with
      | false =>
        rw [if_neg (by simp)]
        go_wp2_with (first | (go_at_call 69; refine (T1 _).mono ?_; clear T1; rintro e w2 ⟨rfl, ev2, P2, G2⟩; have NX := next_at w2 base r p ev2 nb fb s k d l1 P2) | (go_at_call 57; refine NX.mono ?_; rintro e w3 ⟨rfl, P3, G3⟩; have MU := must_bad w3 base r p ev2 nb fb s k d l1 P3 61 (by omega) hs) | (go_at_call 59; refine MU.mono ?_; rintro e w4 ⟨rfl, P4, G4⟩))
        exact ⟨rfl, by simp [grefusalV], ev2, _, d, P4, (((A1 _).2.trans G2).trans G3).trans G4⟩
      | true =>
        rw [if_pos rfl]
        have hk3 := (of_decide_eq_true hs).1
        have hbl := bl_le (s := s) (i := k + 1) (by omega)
        cases h2 : lTerm s (bl s (k + 1)) l1 with
        | bad c q l2 =>
          go_wp2_with (first | (go_at_call 69; refine T2.mono ?_; rintro e w5 ⟨rfl, ev5, k5, P5, G5⟩) | (go_at_call 69; refine (T1 _).mono ?_; clear T1; rintro e w2 ⟨rfl, ev2, P2, G2⟩; have NX := next_at w2 base r p ev2 nb fb s k d l1 P2) | (go_at_call 57; refine NX.mono ?_; rintro e w3 ⟨rfl, P3, G3⟩; have MU := must_at w3 base r p ev2 nb fb s k d l1 P3 61  hs) | (go_at_call 59; refine MU.mono ?_; rintro e w4 ⟨rfl, P4, G4⟩; have T2 := lterm_in w4 base r p ev2 nb fb s (bl s (k + 1)) d l1 P4; rw [h2] at T2))
          exact ⟨rfl, rfl, ev5, k5, d, P5, ((((A1 _).2.trans G2).trans G3).trans G4).trans G5⟩
        | ok b k2 l2 =>
          go_wp2_with (first | (go_at_call 69; refine T2.mono ?_; rintro e w5 ⟨rfl, ev5, P5, G5⟩; have F5 := rowIs_keep ((((A1 _).1.fkeep G2 w.heap.size).trans ((P2.fkeep G3 w.heap.size).trans (P3.fkeep G4 _))).trans (P4.fkeep G5 _)) (Nat.le_refl _) (made_form w (.int .i64 0) (.int .i64 0) (.int .i64 0) (.slice none 0 0)); obtain ⟨z0, z1, z2, z3⟩ := form_cells F5; have y0 := World.rowIs.frozen F5 0; have y1 := World.rowIs.frozen F5 1; have y2 := World.rowIs.frozen F5 2; have y3 := World.rowIs.frozen F5 3; have hlt := World.rowIs.lt F5) | (go_at_call 69; refine (T1 _).mono ?_; clear T1; rintro e w2 ⟨rfl, ev2, P2, G2⟩; have NX := next_at w2 base r p ev2 nb fb s k d l1 P2) | (go_at_call 57; refine NX.mono ?_; rintro e w3 ⟨rfl, P3, G3⟩; have MU := must_at w3 base r p ev2 nb fb s k d l1 P3 61  hs) | (go_at_call 59; refine MU.mono ?_; rintro e w4 ⟨rfl, P4, G4⟩; have T2 := lterm_in w4 base r p ev2 nb fb s (bl s (k + 1)) d l1 P4; rw [h2] at T2))
          have F6 := put_form F5 (.int .i64 0) (.int .i64 (a : Int)) (.int .i64 (b : Int)) (.slice none 0 0)
          have P6 := P5.put4 F5 (.int .i64 0) (.int .i64 (a : Int)) (.int .i64 (b : Int)) (.slice none 0 0)
          have G6 := (((((A1 _).2.trans G2).trans G3).trans G4).trans G5).put4 (Nat.le_refl w.heap.size) (.int .i64 0) (.int .i64 (a : Int)) (.int .i64 (b : Int)) (.slice none 0 0)
          clear z0 z1 z2 z3 y0 y1 y2 y3 T2 MU NX
          unfold Go.Proofs.Ytinphcnknionmab.put4 at F6 P6 G6
          generalize ((((w5).setCell ⟨w.heap.size, 0, none⟩ (.int .i64 0)).setCell ⟨w.heap.size, 1, none⟩ (.int .i64 (a : Int))).setCell ⟨w.heap.size, 2, none⟩ (.int .i64 (b : Int))).setCell ⟨w.heap.size, 3, none⟩ (.slice none 0 0) = w6 at F6 P6 G6 ⊢
          have P7 := P6.kept0 (Kept.alloc (Kept.refl _ w6) (.cells #[.int .i64 0, .int .i64 (a : Int), .int .i64 (b : Int), .slice none 0 0] 31))
          have F7 := rowIs_keep (FKeep.alloc w.heap.size w6 (.cells #[.int .i64 0, .int .i64 (a : Int), .int .i64 (b : Int), .slice none 0 0] 31)) (Nat.le_refl _) F6
          generalize w6.alloc (.cells #[.int .i64 0, .int .i64 (a : Int), .int .i64 (b : Int), .slice none 0 0] 31) = w7 at P7 F7 ⊢
          obtain ⟨z0, z1, z2, z3⟩ := form_cells F7
          refine ⟨rfl, .agg #[.int .i64 0, .int .i64 (a : Int), .int .i64 (b : Int), .slice none 0 0], by simp [results, Try.results68, go_sem, z0, z1, z2, z3], ?_⟩
          exact ⟨_, rfl, FVal.eq _ _ _ _, ev5, P7.1, G6.trans P7.2⟩

end Go.Proofs.Ytinphcnknionmab
