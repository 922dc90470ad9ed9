/- The document's Parse. Ranges over a function whose elements come in an order that is known: the body is asked at the next one alone. Package logic: the way through a formula, plainly; kids. -/
import Derived.Test.YtinphcnknionmaaPaF
import Derived.Test.YtinphcnknionmaaLoL
import Derived.Test.YtinphcnknionmaaP00
import Derived.RangeFuncNested
import Derived.RangeFuncBound
import Derived.RangeFuncCalls
import Derived.RangeFuncLeaves
import Derived.Shelf.Abstract
import Derived.Shelf.RegionOpen
import Derived.OwnWalkIn
import Derived.TacticsInMore
import Derived.LoopNIn
import Derived.LoopIn
import Derived.Test.YtinphcnknionmaaP19
import Derived.Sort.LoopGhostIn
namespace Go.Proofs.Ytinphcnknionmaa.Q5
open Go.RowKit

theorem made_p (w : World) (base : Nat) (av : Value) (s : ByteArray) (l : List Tm) (vs : List Value) (L : Ls w base av l vs) (hs : s.size ≤ 400) (hb : base ≤ w.heap.size) (hl : l.length ≤ 150) (hG : Good l) :
    S0 0 (w.alloc (.cells #[.string s, .int .i64 0, av, .int .i64 0, .int .i64 0, .int .i64 0] 165)) base w.heap.size av s 0 0 0 l vs := by
  have K : Kept0 w (w.alloc (.cells #[.string s, .int .i64 0, av, .int .i64 0, .int .i64 0, .int .i64 0] 165)) := Kept.alloc (Kept.refl _ w) _
  refine ⟨⟨World.rowIs.congr (made_row w #[.string s, .int .i64 0, av, .int .i64 0, .int .i64 0, .int .i64 0] 165) (fun j hj => ?_), by omega, hs⟩, L.kept0 K, Nat.le_trans hb K.size, hl, hG.four, hG⟩
  have hj' : j < 6 := hj
  rcases (by omega : j = 0 ∨ j = 1 ∨ j = 2 ∨ j = 3 ∨ j = 4 ∨ j = 5) with rfl | rfl | rfl | rfl | rfl | rfl <;> rfl

def PaPost (w : World) (base : Nat) (R : Fo × Nat × Nat × List Tm) (x : Ending) (w' : World) : Prop :=
  ∃ z av' vs', x = .returned (.tuple #[z, av', .int .i64 (R.2.1 : Int), .int .i64 (R.2.2.1 : Int)]) ∧ RVal (fun k => w.heap.size ≤ k) w' z R.1 ∧ Ls w' base av' R.2.2.2 vs' ∧ Kept0 w w'

def whR (s : ByteArray) (R : Res Fo) : Fo × Nat × Nat × List Tm := match R with
  | .bad c q l' => (.eq 0 0, c, q, l')
  | .ok f k l' => if k < s.size then (.eq 0 0, 2, k, l') else (f, 0, 0, l')

theorem pa_end {d : Nat} {w W : World} {base r : Nat} {av' : Value} {s : ByteArray} {i e a : Nat} {l : List Tm} {vs : List Value} (S : S0 d W base r av' s i e a l vs) {f : Nat → Value} (F : W.rowIs w.heap.size 94 4 f) {op x y : Int} {aa : Option Addr} {n cap : Nat} {g : Fo}
    (V : RVal (fun k => w.heap.size + 1 ≤ k) W (.agg #[.int .i64 op, .int .i64 x, .int .i64 y, .slice aa n cap]) g) (K : Kept (fun k => w.heap.size ≤ k) w W) {W' : World} (hW : W' = (put4 W w.heap.size (.int .i64 op) (.int .i64 x) (.int .i64 y) (.slice aa n cap)).drew) :
    W'.cell? ⟨w.heap.size, 0, none⟩ = some (.int .i64 op) ∧ W'.cell? ⟨w.heap.size, 1, none⟩ = some (.int .i64 x) ∧ W'.cell? ⟨w.heap.size, 2, none⟩ = some (.int .i64 y) ∧ W'.cell? ⟨w.heap.size, 3, none⟩ = some (.slice aa n cap) ∧
      RVal (fun k => w.heap.size ≤ k) W' (.agg #[.int .i64 op, .int .i64 x, .int .i64 y, .slice aa n cap]) g ∧ Ls W' base av' l vs ∧ Kept0 w W' := by
  subst hW
  have P := put_formR F (.int .i64 op) (.int .i64 x) (.int .i64 y) (.slice aa n cap)
  have KP := put_kept W w.heap.size (.int .i64 op) (.int .i64 x) (.int .i64 y) (.slice aa n cap)
  obtain ⟨z0, z1, z2, z3⟩ := form_cellsR P
  have V9 := (V.keep (put_keepR (A := fun k => w.heap.size + 1 ≤ k) (w := W) (b := w.heap.size) (by omega) (.int .i64 op) (.int .i64 x) (.int .i64 y) (.slice aa n cap))).mono (A' := fun k => w.heap.size ≤ k) (fun k hk => by omega)
  have S9 := S.put F KP
  have K9 := Kept.trans K (Kept.mono KP (fun k _ x => Nat.le_of_eq (Eq.symm x)))
  generalize put4 W w.heap.size (.int .i64 op) (.int .i64 x) (.int .i64 y) (.slice aa n cap) = W9 at *
  exact ⟨z0, z1, z2, z3, V9.keep (RKeep.kept0 (Kept.drewN (Kept.refl _ W9) 1) _), (S9.drewN 1).ls, Kept.mono (Kept.drewN K9 1) (fun k hk x => absurd x (by omega))⟩

set_option maxRecDepth 100000 in
set_option maxHeartbeats 2000000 in
theorem rParse_in (w : World) (base : Nat) (av : Value) (l : List Tm) (vs : List Value) (h : Ls w base av l vs) (hbs : base ≤ w.heap.size) (hG : Good l) (hl : l.length ≤ 150) (s : ByteArray) :
    Calls Try.prog 59 #[av, .string s] w (PaPost w base (gParse s l)) := by
  have KA : Kept0 w (w.alloc (.cells #[.int .i64 0, .int .i64 0, .int .i64 0, .slice none 0 0] 94)) := Kept.alloc (Kept.refl _ w) _
  have F1 := made_formR w (.int .i64 0) (.int .i64 0) (.int .i64 0) (.slice none 0 0)
  obtain ⟨a0, c0, rfl⟩ := row_form5 h.row
  by_cases hs : 400 < s.size
  · have hp : gParse s l = (.eq 0 0, 1, 0, l) := by simp [gParse, hs]
    have d : decide ((400 : Int) < (s.size : Int)) = true := decide_eq_true (by omega)
    rw [hp]
    go_enter Try.func59, Try.ntmps59
    go_wp2_with fail
    refine ⟨rfl, .tuple #[.agg #[.int .i64 0, .int .i64 0, .int .i64 0, .slice none 0 0], .slice a0 l.length c0, .int .i64 1, .int .i64 0], by simp [results, Try.results59, go_sem], ?_⟩
    exact ⟨_, _, vs, rfl, RVal.eq _ _ 0 0, h.kept0 KA, KA⟩
  · have hp : gParse s l = gWhole s l := by simp [gParse, hs]
    have d : decide ((400 : Int) < (s.size : Int)) = false := decide_eq_false (by omega)
    rw [hp]
    have CO := copied_in _ base (.slice a0 l.length c0) l vs (h.kept0 KA) (by omega) (Nat.le_trans hbs KA.size)
    have hb0 := bl_le (s := s) (i := 0) (by omega)
    have FO := (at5_all (6 * s.size + 5)).1
    rw [show gWhole s l = whR s (gp s (6 * s.size + 5) 0 0 (bl s 0) l) from rfl]
    generalize hgp : gp s (6 * s.size + 5) 0 0 (bl s 0) l = R at *
    go_enter Try.func59, Try.ntmps59
    go_wp2_with (first | (go_at_call 101; refine FQ.mono ?_; rintro e w3 ⟨v3, g3, rfl, V3, av3, i3, e3, a3, l3, vs3, S3, G3, T3⟩; obtain ⟨op3, x3, y3, aa3, n3, cap3, rfl⟩ := V3.form; have BL := rblanks_in _ w1.heap.size s i3 av3 e3 a3 (S3.kept0 (Kept.alloc (Kept.refl _ w3) (.cells #[.int .i64 op3, .int .i64 x3, .int .i64 y3, .slice aa3 n3 cap3] 94))).rd) | (go_at_call 67; refine CO.mono ?_; rintro e w1 ⟨av1, rfl, L1, K1, N1⟩; obtain ⟨a1, k1, rfl⟩ := row_form5 L1.row; have S2 := made_p w1 base (.slice a1 l.length k1) s l vs L1 (by omega) (Nat.le_trans (Nat.le_trans hbs KA.size) K1.size) hl hG; have FQ := FO _ base w1.heap.size _ s 0 0 l vs S2 (by omega) (by omega); rw [hgp] at FQ) | (go_at_call 69; refine BL.mono ?_; rintro e w5 ⟨rfl, R5, K5⟩; refine Aside.out ?_))
    delta Aside
    obtain ⟨r, hr⟩ : ∃ r, r = w1.heap.size := ⟨_, rfl⟩
    rw [← hr] at S2 S3 G3 R5 K5 BL FQ ⊢
    have hz1 := K1.size
    have KP : Kept0 w1 (w1.alloc (.cells #[.string s, .int .i64 0, .slice a1 l.length k1, .int .i64 0, .int .i64 0, .int .i64 0] 165)) := Kept.alloc (Kept.refl _ w1) _
    have hz2 := KP.size
    have hz3 := G3.kept.size
    have K4 : Kept0 w3 (w3.alloc (.cells #[.int .i64 op3, .int .i64 x3, .int .i64 y3, .slice aa3 n3 cap3] 94)) := Kept.alloc (Kept.refl _ w3) _
    have hz0 : (w.alloc (.cells #[.int .i64 0, .int .i64 0, .int .i64 0, .slice none 0 0] 94)).heap.size = w.heap.size + 1 := by simp
    have KS3 : Kept (fun k => w.heap.size + 1 ≤ k) (w.alloc (.cells #[.int .i64 0, .int .i64 0, .int .i64 0, .slice none 0 0] 94)) w3 := Kept.trans (Kept.trans (Kept.mono K1 (fun _ _ x => x.elim)) (Kept.mono KP (fun _ _ x => x.elim))) (Kept.mono G3.kept (fun k hk x => by
      rcases x with x | x | x
      · omega
      · have := N1 k x; omega
      · omega))
    have KS5 := Kept.trans (Kept.trans KS3 (Kept.mono K4 (fun _ _ x => x.elim))) (Kept.mono K5 (fun k _ x => by have x : k = r := x; omega))
    have F5 := F1.of_block (KS5.block w.heap.size (by omega) (by omega))
    have S4 := S3.kept0 K4
    have KR5 := S4.rkeep ((GR.refl r _ av3).kept1 K5)
    have B5 := rowIs_keepR (KR5 (fun _ => True)) trivial (made_formR w3 (.int .i64 op3) (.int .i64 x3) (.int .i64 y3) (.slice aa3 n3 cap3))
    have V5 := ((V3.mono (A' := fun k => w.heap.size + 1 ≤ k) (fun k hk => by omega)).keep (RKeep.kept0 K4 _)).keep (KR5 _)
    have S5 := S4.read K5 R5
    have KW := Kept.trans (Kept.mono KA (fun _ _ x => x.elim)) (Kept.mono KS5 (fun k _ x => Nat.le_of_succ_le x))
    have T := T3.out
    have hwr : w.heap.size < r := by omega
    have hbfw : w.heap.size < w3.heap.size := by omega
    have hbfr : r ≠ w3.heap.size := by have := S3.rd.row.lt; omega
    have H5 : Hid (_ ∧ _ ∧ _ ∧ _ ∧ _) := And.intro S5 (And.intro F5 (And.intro B5 (And.intro V5 KW)))
    clear V5 B5 KR5 S4 F5 KS5 KS3 K4 KP T3 S3 G3 V3 BL FQ S2 N1 K1 L1 CO F1 KA FO h hz1 hz2 hz3 hz0 K5
    have c15 := R5.c1
    have hle3 := S5.rd.le
    clear S5 hr KW
    generalize w3.heap.size = bf at *
    by_cases hlt : bl s i3 < s.size
    · have dl : decide ((bl s i3 : Int) < (s.size : Int)) = true := decide_eq_true (by omega)
      have FAIL := fun m => fail_in (w5.drewN m) r s (bl s i3) av3 e3 a3 (R5.drewN m) 2 (bl s i3)
      have hfe : failE e3 2 ≠ 0 := by unfold failE; split <;> omega
      apply_assumption
      go_wp2_with fail
      go_region_with (go_at_call 70; refine (FAIL 1).mono ?_; rintro e w6 ⟨rfl, R6, K6⟩; have c36 := R6.c3; have c26 := R6.c2; have c46 := R6.c4; have KX := Kept.trans (Kept.drewN (Kept.refl _ w5) 1) K6; have KR := H5.out.1.rkeep ((GR.refl r _ av3).kept1 KX) (fun _ => True); have F6 := rowIs_keepR KR trivial H5.out.2.1; obtain ⟨z0, z1, z2, z3⟩ := form_cellsR F6; have yy0 := World.rowIs.frozen F6 0; have yy1 := World.rowIs.frozen F6 1; have yy2 := World.rowIs.frozen F6 2; have yy3 := World.rowIs.frozen F6 3)
      generalize hfe2 : failE e3 2 = e9 at *
      have de : ((e9 : Int) != 0) = true := by simp; omega
      go_wp2_with fail
      have hrw : r ≠ w.heap.size := by omega
      obtain ⟨a6, c6, hav⟩ := row_form5 H5.out.1.ls.row
      subst hav
      clear c15 FAIL
      have hres : Hid (whR s R = (Fo.eq 0 0, e9, failA e3 a3 (bl s i3), l3)) := by
        cases R with
        | bad c q l' =>
          obtain ⟨hc, rfl, rfl, rfl⟩ := T
          rw [← hfe2, failE, failA, if_neg hc, if_neg hc]
          rfl
        | ok f k l' =>
          obtain ⟨rfl, rfl, rfl, rfl, rfl⟩ := T
          rw [← hfe2]
          exact if_pos hlt
      clear T
      go_region
      all_goals
        clear z0 z1 z2 z3 yy0 yy1 yy2 yy3 c26 c36 c46
        go_wp2_with fail
        have N := pa_end (w := w) (H5.out.1.read KX R6) F6 (RVal.eq _ _ 0 0) (Kept.trans H5.out.2.2.2.2 (Kept.mono KX (fun k _ x => by have x : k = r := x; omega))) rfl
        unfold put4 at N
        generalize (((((w6).setCell ⟨w.heap.size, 0, none⟩ (.int .i64 0)).setCell ⟨w.heap.size, 1, none⟩ (.int .i64 0)).setCell ⟨w.heap.size, 2, none⟩ (.int .i64 0)).setCell ⟨w.heap.size, 3, none⟩ (.slice none 0 0)).drew = w10 at N ⊢
        obtain ⟨z0, z1, z2, z3, V10, L10, K10⟩ := N
        refine ⟨rfl, .tuple #[.agg #[.int .i64 0, .int .i64 0, .int .i64 0, .slice none 0 0], .slice a6 l3.length c6, .int .i64 (e9 : Int), .int .i64 (failA e3 a3 (bl s i3) : Int)], by simp [results, Try.results59, go_sem, z0, z1, z2, z3], ?_⟩
        rw [hres.out]
        exact ⟨_, _, vs3, rfl, V10, L10, K10⟩
    · have dl : decide ((bl s i3 : Int) < (s.size : Int)) = false := decide_eq_false (by omega)
      obtain ⟨a6, c6, hav⟩ := row_form5 H5.out.1.ls.row
      subst hav
      have c35 := R5.c3
      have c25 := R5.c2
      have c45 := R5.c4
      obtain ⟨z0, z1, z2, z3⟩ := form_cellsR H5.out.2.1
      obtain ⟨t0, t1, t2, t3⟩ := form_cellsR H5.out.2.2.1
      have yy0 := World.rowIs.frozen H5.out.2.1 0
      have yy1 := World.rowIs.frozen H5.out.2.1 1
      have yy2 := World.rowIs.frozen H5.out.2.1 2
      have yy3 := World.rowIs.frozen H5.out.2.1 3
      have hrw : r ≠ w.heap.size := by omega
      by_cases he : e3 = 0
      · subst he
        have hres : Hid (whR s R = (g3, 0, 0, l3)) := by
          cases R with
          | bad c q l' => exact absurd T.2.1.symm T.1
          | ok f k l' =>
            obtain ⟨rfl, _, rfl, rfl, rfl⟩ := T
            exact if_neg hlt
        clear T
        apply_assumption
        go_wp2_with fail
        clear c15 c35 c45
        go_region
        all_goals
          clear z0 z1 z2 z3 yy0 yy1 yy2 yy3 t0 t1 t2 t3 c25
          go_wp2_with fail
          have N := pa_end (w := w) H5.out.1 H5.out.2.1 H5.out.2.2.2.1 H5.out.2.2.2.2 rfl
          unfold put4 at N
          generalize (((((w5).setCell ⟨w.heap.size, 0, none⟩ (.int .i64 op3)).setCell ⟨w.heap.size, 1, none⟩ (.int .i64 x3)).setCell ⟨w.heap.size, 2, none⟩ (.int .i64 y3)).setCell ⟨w.heap.size, 3, none⟩ (.slice aa3 n3 cap3)).drew = w10 at N ⊢
          obtain ⟨z0, z1, z2, z3, V10, L10, K10⟩ := N
          refine ⟨rfl, .tuple #[.agg #[.int .i64 op3, .int .i64 x3, .int .i64 y3, .slice aa3 n3 cap3], .slice a6 l3.length c6, .int .i64 0, .int .i64 0], by simp [results, Try.results59, go_sem, z0, z1, z2, z3], ?_⟩
          rw [hres.out]
          exact ⟨_, _, vs3, rfl, V10, L10, K10⟩
      · have de : ((e3 : Int) != 0) = true := by simp; omega
        have hres : Hid (whR s R = (.eq 0 0, e3, a3, l3)) := by
          cases R with
          | bad c q l' =>
            obtain ⟨hc, rfl, rfl, rfl⟩ := T
            rfl
          | ok f k l' => exact absurd T.2.1 he
        clear T t0 t1 t2 t3
        apply_assumption
        go_wp2_with fail
        clear c15
        go_region
        all_goals
          clear z0 z1 z2 z3 yy0 yy1 yy2 yy3 c25 c35 c45
          go_wp2_with fail
          have N := pa_end (w := w) H5.out.1 H5.out.2.1 (RVal.eq _ _ 0 0) H5.out.2.2.2.2 rfl
          unfold put4 at N
          generalize (((((w5).setCell ⟨w.heap.size, 0, none⟩ (.int .i64 0)).setCell ⟨w.heap.size, 1, none⟩ (.int .i64 0)).setCell ⟨w.heap.size, 2, none⟩ (.int .i64 0)).setCell ⟨w.heap.size, 3, none⟩ (.slice none 0 0)).drew = w10 at N ⊢
          obtain ⟨z0, z1, z2, z3, V10, L10, K10⟩ := N
          refine ⟨rfl, .tuple #[.agg #[.int .i64 0, .int .i64 0, .int .i64 0, .slice none 0 0], .slice a6 l3.length c6, .int .i64 (e3 : Int), .int .i64 (a3 : Int)], by simp [results, Try.results59, go_sem, z0, z1, z2, z3], ?_⟩
          rw [hres.out]
          exact ⟨_, _, vs3, rfl, V10, L10, K10⟩

end Go.Proofs.Ytinphcnknionmaa.Q5

namespace Go.Proofs.Ytinphcnknionmaa
open Go.RowKit Go.Shelf

/-- Cells of one of some types. -/
def OfTy (tys : TypeId → Prop) (o : Obj) : Prop := ∃ c ty fz, o = Obj.cells c ty fz ∧ tys ty

/-- What an iterator does between two rounds: below B nothing changes, from B on cells stay that are not of type ty. -/
structure Ow (ty : TypeId) (B : Nat) (W W' : World) : Prop where
  os : W'.os = W.os
  tape : W'.tape = W.tape
  output : W'.output = W.output
  size : W.heap.size ≤ W'.heap.size
  same : ∀ (k : Nat) (o : Obj), W.heap[k]? = some o → (k < B ∨ (o.isCells = true ∧ ¬ OfTy (fun t => t = ty) o)) → W'.heap[k]? = some o

/-- What a round keeps: from B on what is no cells, and the cells of some types. -/
structure Kr (tys : TypeId → Prop) (B : Nat) (W W' : World) : Prop where
  size : W.heap.size ≤ W'.heap.size
  same : ∀ (k : Nat) (o : Obj), W.heap[k]? = some o → ((B ≤ k ∧ o.isCells = false) ∨ OfTy tys o) → W'.heap[k]? = some o

theorem Ow.refl (ty : TypeId) (B : Nat) (W : World) : Ow ty B W W := ⟨rfl, rfl, rfl, Nat.le_refl _, fun _ _ h _ => h⟩
theorem Ow.trans {ty : TypeId} {B : Nat} {X Y Z : World} (h : Ow ty B X Y) (k : Ow ty B Y Z) : Ow ty B X Z :=
  ⟨k.os.trans h.os, k.tape.trans h.tape, k.output.trans h.output, Nat.le_trans h.size k.size, fun i o hi ho => k.same i o (h.same i o hi ho) ho⟩
theorem Ow.mono {ty : TypeId} {B B' : Nat} {X Y : World} (h : Ow ty B X Y) (hB : B' ≤ B) : Ow ty B' X Y :=
  ⟨h.os, h.tape, h.output, h.size, fun i o hi ho => h.same i o hi (ho.imp (fun x => by omega) id)⟩
theorem Kr.refl (tys : TypeId → Prop) (B : Nat) (W : World) : Kr tys B W W := ⟨Nat.le_refl _, fun _ _ h _ => h⟩
theorem Kr.trans {tys : TypeId → Prop} {B : Nat} {X Y Z : World} (h : Kr tys B X Y) (k : Kr tys B Y Z) : Kr tys B X Z :=
  ⟨Nat.le_trans h.size k.size, fun i o hi ho => k.same i o (h.same i o hi ho) ho⟩
theorem Kr.mono {tys : TypeId → Prop} {B B' : Nat} {X Y : World} (h : Kr tys B X Y) (hB : B ≤ B') : Kr tys B' X Y :=
  ⟨h.size, fun i o hi ho => h.same i o hi (ho.imp (fun x => ⟨by omega, x.2⟩) id)⟩

theorem OfTy.isCells {tys : TypeId → Prop} {o : Obj} (h : OfTy tys o) : o.isCells = true := by
  obtain ⟨c, ty, fz, rfl, _⟩ := h
  rfl

/-- A block that is no cells is laid anew. -/
theorem Ow.putObj {ty : TypeId} {B : Nat} {W : World} {l : Nat} {o : Obj} (o' : Obj) (hB : B ≤ l) (hl : W.heap[l]? = some o) (ho : o.isCells = false) : Ow ty B W (W.putObj l o') := by
  refine ⟨rfl, rfl, rfl, by simp, fun k x hk hx => ?_⟩
  rw [World.putObj_heap_other]
  · exact hk
  · rintro rfl
    rcases hx with hx | hx
    · omega
    · rw [hl] at hk
      cases hk
      rw [ho] at hx
      cases hx.1
theorem Kr.putObj {tys : TypeId → Prop} {B : Nat} {W : World} {l : Nat} {o : Obj} (o' : Obj) (hB : l < B) (hl : W.heap[l]? = some o) (ho : o.isCells = false) : Kr tys B W (W.putObj l o') := by
  refine ⟨by simp, fun k x hk hx => ?_⟩
  rw [World.putObj_heap_other]
  · exact hk
  · rintro rfl
    rcases hx with hx | hx
    · omega
    · rw [hl] at hk
      cases hk
      rw [hx.isCells] at ho
      cases ho
theorem Ow.alloc {ty : TypeId} {B : Nat} (W : World) (o : Obj) : Ow ty B W (W.alloc o) :=
  ⟨rfl, rfl, rfl, by simp, fun k _ hk _ => (Below.heap_alloc W o k (Array.getElem?_eq_some_iff.1 hk).1).trans hk⟩
theorem Kr.alloc {tys : TypeId → Prop} {B : Nat} (W : World) (o : Obj) : Kr tys B W (W.alloc o) :=
  ⟨by simp, fun k _ hk _ => (Below.heap_alloc W o k (Array.getElem?_eq_some_iff.1 hk).1).trans hk⟩

/-- An iterator whose elements are tr, in this order, under a body that always goes on. -/
def SeqT {α : Type} (n : Nat) (P : Program) (tys : TypeId → Prop) (ty : TypeId) (g : Nat) (lb : Array Value) (encs : α → Array Value) (tr : List α) (w : World) : Prop :=
  ∀ (l : Nat) (J : Nat → World → Prop) (W : World), Below w.heap.size w W → (∀ i A B, J i A → Ow ty W.heap.size A B → J i B) →
    (∀ i x W1, tr[i]? = some x → J i W1 → YieldAt Fence.wide (n - 1) P l (encs x) W1 fun e W' => e = .returned (.bool true) ∧ J (i + 1) W' ∧ Kr tys W.heap.size W1 W') →
    J 0 W → CallsIn Fence.wide n P g (#[.func (.yield l) #[] #[]] ++ lb) W fun e W' => (∃ v, e = .returned v) ∧ J tr.length W'

/-- How the body of a round ends. -/
def goesOn (tys : TypeId → Prop) (B : Nat) (I : World → Prop) (W : World) : Exit → Act → World → Prop
  | .normal, _, W' => Kr tys B W W' ∧ I W'
  | _, _, _ => False

theorem rangeT {α : Type} {n : Nat} {P : Program} {tys : TypeId → Prop} {ty : TypeId} {g : Operand} {ps : Array Tmp} {assign body : Code} {Q : Exit → Act → World → Prop} {a : Act} {w : World}
    (h1 : 1 ≤ n) {gf : Nat} {lb : Array Value} (hg : a.eval g = .func (.func gf) #[] lb) (eg : ∀ args w, (callFunc gf args).run P w = .ok (.enter gf args) w)
    {encs : α → Array Value} {tr : List α} {w0 : World} (hseq : SeqT (n - 1) P tys ty gf lb encs tr w0) (hb0 : Below w0.heap.size w0 w) (hps : ∀ x, (encs x).size = ps.size)
    (I : Nat → World → Prop) (hI : ∀ i A B, I i A → Ow ty w.heap.size A B → I i B) (h0 : I 0 w) (a₁ : α → Act)
    (hassign : ∀ (l : Nat) (x : α) (W : World) (K : Act → World → Prop), K (a₁ x) W →
      assign.wpIn (Fence.wide.inRound l) (n - 1 - 1) P (Exit.then K (fun _ _ _ => False)) { tmps := (ps.zip (encs x)).foldl (fun t (p, v) => t.setIfInBounds p v) a.tmps, defers := [] } W)
    (hbody : ∀ (l i : Nat) (x : α) (W : World), tr[i]? = some x → w.heap.size ≤ W.heap.size → I i W → body.wpIn (Fence.wide.inRound l) (n - 1 - 1) P (goesOn tys w.heap.size (I (i + 1)) W) (a₁ x) W)
    (hdone : ∀ (D : Nat) (W : World), w.heap.size ≤ D → I tr.length W → W.heap[D]? = some (.deferred (some [])) → Q .normal { a with defers := { target := .collected D, args := #[] } :: a.defers } W) :
    (Code.rangeFunc g ps assign body).wpIn Fence.wide n P Q a w := by
  refine wpIn_rangeFunc ?_
  intro fn hfn
  show ∃ _, _
  rw [show Fence.wide.round = none from rfl]
  obtain ⟨rec, hrec⟩ : ∃ rec : LoopState → Option Code → Loop, rec = fun st pe => { state := st, pending := pe, fn, tmps := a.tmps, params := ps, assign, body, defers := w.heap.size } := ⟨_, rfl⟩
  obtain ⟨W1, hW1⟩ : ∃ W1, (w.alloc (.deferred (some []))).alloc (.loop (rec .ready none)) = W1 := ⟨_, rfl⟩
  have hsz : W1.heap.size = w.heap.size + 2 := by rw [← hW1]; simp
  have hL1 : W1.heap[w.heap.size + 1]? = some (.loop (rec .ready none)) := by
    have := World.alloc_heap_new (w.alloc (.deferred (some []))) (.loop (rec .ready none))
    rw [World.size_alloc, hW1] at this
    exact this
  have hD1 : W1.heap[w.heap.size]? = some (.deferred (some [])) := by
    rw [← hW1]
    exact (Below.heap_alloc _ _ _ (by simp)).trans (World.alloc_heap_new w _)
  have hO1 : Ow ty w.heap.size w W1 := by rw [← hW1]; exact (Ow.alloc w _).trans (Ow.alloc _ _)
  have hb1 : Below w0.heap.size w0 W1 := by
    rw [← hW1]
    exact hb0.trans ((((Below.refl _ w).alloc (Nat.le_refl _) _).alloc (by simp) _).mono hb0.size)
  refine ⟨w.heap.size + 1, [{ target := .collected w.heap.size, args := #[] }], W1, { target := .fn (.func gf) lb, args := #[.func (.yield (w.heap.size + 1)) #[] #[]] }, W1, gf, #[.func (.yield (w.heap.size + 1)) #[] #[]] ++ lb, W1, ?_, ?_, ?_, ?_, fun _ => h1, ?_⟩
  · rw [← hW1, hrec]; exact run_enterLoop_outer _ _ _ _ _
  · simp only [resolve, hg]
    simp [go_sem]
  · intro f' _; trivial
  · simp [invoke, go_sem, eg]
  · refine (hseq (w.heap.size + 1) (fun i W => I i W ∧ W.heap[w.heap.size + 1]? = some (.loop (rec .ready none)) ∧ W.heap[w.heap.size]? = some (.deferred (some [])) ∧ w.heap.size ≤ W.heap.size) W1 hb1 ?_ ?_ ⟨hI 0 _ _ h0 hO1, hL1, hD1, by omega⟩).mono ?_
    · rintro i A B ⟨hi, hl, hd, hs⟩ hO
      exact ⟨hI i A B hi (hO.mono (by omega)), hO.same _ _ hl (Or.inl (by omega)), hO.same _ _ hd (Or.inl (by omega)), Nat.le_trans hs hO.size⟩
    · rintro i x W hx ⟨hi, hl, hd, hs⟩
      have hlt : w.heap.size + 1 < W.heap.size := (Array.getElem?_eq_some_iff.1 hl).1
      have hy := run_yield (P := P) (args := encs x) hl (by rw [hrec]; exact hps x)
      rw [hrec] at hy
      refine ⟨fn, _, assign, body, hy, roundIn_of_wpIn hfn (hassign _ x W _ ?_)⟩
      clear hy
      refine ⟨_, run_beginRound hl (by rw [hrec]), ?_⟩
      obtain ⟨W2, hW2⟩ : ∃ W2, W.putObj (w.heap.size + 1) (.loop { rec .ready none with state := .busy }) = W2 := ⟨_, rfl⟩
      have hl2 : W2.heap[w.heap.size + 1]? = some (.loop { rec .ready none with state := .busy }) := by rw [← hW2]; exact World.putObj_heap_same hlt
      have hd2 : W2.heap[w.heap.size]? = some (.deferred (some [])) := by rw [← hW2]; exact (World.putObj_heap_other (by omega)).trans hd
      have hO2 : Ow ty w.heap.size W W2 := by rw [← hW2]; exact Ow.putObj _ (by omega) hl rfl
      have hK2 : Kr tys W1.heap.size W W2 := by rw [← hW2]; exact Kr.putObj _ (by omega) hl rfl
      rw [hW2]
      refine wpIn_mono (hbody _ i x W2 hx (Nat.le_trans hs hO2.size) (hI i _ _ hi hO2)) ?_
      rintro e a3 W3 hp
      cases e with
      | normal =>
        obtain ⟨hk3, hi3⟩ := hp
        have hl3 := hk3.same _ _ hl2 (Or.inl ⟨by omega, rfl⟩)
        have hd3 := hk3.same _ _ hd2 (Or.inl ⟨by omega, rfl⟩)
        have hlt3 := (Array.getElem?_eq_some_iff.1 hl3).1
        have hr := run_endRound (P := P) none hl3
        refine ⟨_, _, hr, rfl, ⟨hI _ _ _ hi3 (Ow.putObj _ (by omega) hl3 rfl), ?_, (World.putObj_heap_other (by omega)).trans hd3, by simp; omega⟩, (hK2.trans (hk3.mono (by omega))).trans (Kr.putObj _ (by omega) hl3 rfl)⟩
        rw [World.putObj_heap_same hlt3, hrec]
        rfl
      | ret => exact hp.elim
      | exit id => exact hp.elim
      | goto t => exact hp.elim
      | panic ch => exact hp.elim
      | outgrown => exact hp.elim
    · rintro e W2 ⟨⟨v, rfl⟩, hi, hl, hd, hs⟩
      exact ⟨none, _, by have := run_endLoop (P := P) hl (by rw [hrec]; simp); rw [hrec] at this; exact this, hdone _ _ (Nat.le_refl _) (hI _ _ _ hi (Ow.putObj _ (by omega) hl rfl)) ((World.putObj_heap_other (by omega)).trans hd)⟩

end Go.Proofs.Ytinphcnknionmaa

namespace Go.Proofs.Ytinphcnknionmaa
open Go.RowKit Go.Shelf

/-- The Forms that are gone through within one. -/
def Lf.ks (t : Lf) : List Lf := if t.op = 0 then [] else t.kids

theorem ks_lt {t k : Lf} (h : k ∈ t.ks) : SizeOf.sizeOf k < SizeOf.sizeOf t := by
  unfold Lf.ks at h
  split at h
  · cases h
  · cases t with
    | mk b o op x y kv kids =>
      have : k ∈ kids := h
      have := List.sizeOf_lt_of_mem this
      simp
      omega

/-- What comes, from a Form of which d Kids are done. -/
def wk (t : Lf) (d : Nat) : List (Lf × Nat) := (t, d) :: (match _h : t.ks[d]? with
  | none => []
  | some k => wk k 0 ++ wk t (d + 1))
termination_by (SizeOf.sizeOf t, t.ks.length - d)
decreasing_by
  · exact Prod.Lex.left _ _ (ks_lt (List.mem_of_getElem? _h))
  · have := (List.getElem?_eq_some_iff.1 _h).1
    exact Prod.Lex.right _ (by omega)

theorem wk_end {t : Lf} {d : Nat} (h : t.ks[d]? = none) : wk t d = [(t, d)] := by
  rw [wk]
  split
  · rfl
  · next k hk => rw [h] at hk; cases hk
theorem wk_step {t k : Lf} {d : Nat} (h : t.ks[d]? = some k) : wk t d = (t, d) :: (wk k 0 ++ wk t (d + 1)) := by
  rw [wk]
  split
  · next hk => rw [h] at hk; cases hk
  · next k' hk => rw [h] at hk; cases hk; rfl

/-- What is still to come, by the way down (the last one first). -/
def rem (st : List (Lf × Nat)) : List (Lf × Nat) := st.flatMap fun x => wk x.1 x.2

/-- All Forms of one lie in memory. -/
abbrev Here (W : World) (t : Lf) : Prop := LayA (fun _ => True) W t

theorem Here.cells {W : World} {t : Lf} (h : Here W t) : FCells W t.b t.o t.op t.x t.y t.kv := by
  cases h with
  | mk hb hc hk _ => exact hc
theorem Here.kidsIn {W : World} {t : Lf} (h : Here W t) : KidsIn t.kv t.kids := by
  cases h with
  | mk hb hc hk _ => exact hk
theorem Here.kid {W : World} {t k : Lf} (h : Here W t) (hk : k ∈ t.kids) : Here W k := by
  cases h with
  | mk _ _ _ hh => exact hh k hk

set_option maxHeartbeats 1000000 in
/-- kids. -/
theorem kids_in (w : World) (t : Lf) (h : Here w t) :
    Calls Try.prog 133 #[.pointer (some ⟨t.b, t.o, none⟩)] w fun e w' => e = .returned (if t.op = 0 then .slice none 0 0 else t.kv) ∧ w' = w := by
  have c0 := h.cells.c0
  have c3 := h.cells.c3
  obtain ⟨a, cap, hkv, _⟩ := h.kidsIn
  rw [hkv] at c3 ⊢
  go_enter Try.func133, Try.ntmps133
  by_cases h0 : t.op = 0
  · rw [if_pos h0]
    rw [h0] at c0
    go_wp2_with fail
    go_ret
    exact ⟨rfl, rfl⟩
  · rw [if_neg h0]
    have d0 : (t.op == 0) = false := by simpa using h0
    go_wp2_with fail
    go_ret
    exact ⟨rfl, rfl⟩

end Go.Proofs.Ytinphcnknionmaa
