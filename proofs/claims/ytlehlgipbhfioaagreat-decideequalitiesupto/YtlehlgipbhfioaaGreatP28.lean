/- Package logic: within, not, row, form. Package close: what was told, and the states between. Package logic: Show: what it writes at a Form; isUnequal, signAt. Package logic: fold, plainly. Package logic: Show: what it goes round with. Package logic: Show, the walk. -/
import Derived.Test.YtlehlgipbhfioaaGreatP27
import Derived.Test.YtlehlgipbhfioaaGreatP17
import Derived.OrdersHeld
import Derived.Deep.RegionHeld3
namespace Go.Proofs.YtlehlgipbhfioaaGreat
open Go.RowKit Go.Maps

/-- A function that reads a formula, at a level. -/
def At (fn lev f : Nat) : Prop := ∀ (w : World) (base r p : Nat) (ev : Value) (nb fb : Nat) (s : ByteArray) (i d : Nat) (l : List Tm), PB w base r p ev nb fb s i d l → 6 * (s.size - i) + 5 ≤ f + lev → d ≤ 20 →
  Calls Tryz.prog fn #[.pointer (some ⟨r, 0, none⟩)] w (FoPost base r p nb fb s d w ev (gp s f lev d i l))

/-- A Form is put into the box of the result. -/
theorem fin_box {w W W'' : World} {base r p : Nat} {ev ev' : Value} {nb fb : Nat} {s : ByteArray} {k d : Nat} {l : List Tm} (P : PB W base r p ev' nb fb s k d l) {f : Nat → Value} (F : W.rowIs w.heap.size 36 4 f) {op x y : Int} {a : Option Addr} {n cap : Nat} {g : Fo}
    (V : FVal (w.heap.size + 1) W (.agg #[.int .i64 op, .int .i64 x, .int .i64 y, .slice a n cap]) g) (G : Grew (fun k => k = r) p nb fb w ev W ev') (K : Kept0 (put4 W w.heap.size (.int .i64 op) (.int .i64 x) (.int .i64 y) (.slice a n cap)) W'') :
    W''.cell? ⟨w.heap.size, 0, none⟩ = some (.int .i64 op) ∧ W''.cell? ⟨w.heap.size, 1, none⟩ = some (.int .i64 x) ∧ W''.cell? ⟨w.heap.size, 2, none⟩ = some (.int .i64 y) ∧ W''.cell? ⟨w.heap.size, 3, none⟩ = some (.slice a n cap) ∧
      FVal w.heap.size W'' (.agg #[.int .i64 op, .int .i64 x, .int .i64 y, .slice a n cap]) g ∧ PB W'' base r p ev' nb fb s k d l ∧ Grew (fun k => k = r) p nb fb w ev W'' ev' := by
  have F8 := put_form F (.int .i64 op) (.int .i64 x) (.int .i64 y) (.slice a n cap)
  have P8 := P.put4 F (.int .i64 op) (.int .i64 x) (.int .i64 y) (.slice a n cap)
  have V8 := (V.keep (put_keep (Nat.lt_succ_self w.heap.size) (.int .i64 op) (.int .i64 x) (.int .i64 y) (.slice a n cap))).mono (Nat.le_succ _)
  have G8 := G.put4 (Nat.le_refl w.heap.size) (.int .i64 op) (.int .i64 x) (.int .i64 y) (.slice a n cap)
  have F9 := rowIs_keep (FKeep.kept0 K w.heap.size) (Nat.le_refl _) F8
  obtain ⟨z0, z1, z2, z3⟩ := form_cells F9
  have P9 := P8.kept0 K
  exact ⟨z0, z1, z2, z3, V8.keep (FKeep.kept0 K _), P9.1, G8.trans P9.2⟩

set_option maxRecDepth 100000 in
set_option maxHeartbeats 1000000 in
theorem within_not (f : Nat) (H : At 194 3 f) (w : World) (base r p : Nat) (ev : Value) (nb fb : Nat) (s : ByteArray) (i d : Nat) (l : List Tm) (h : PB w base r p ev nb fb s i d l) (c : Nat) (hc : c ≠ 0) (hb : byt s i = c) (hd : d ≤ 20) (hf : 6 * (s.size - bl s (i + 1)) + 5 ≤ f + 3) :
    Calls Tryz.prog 232 #[.pointer (some ⟨r, 0, none⟩), .int .u8 (c : Int), .func (.func 194) #[.pointer (some ⟨r, 0, none⟩)] #[]] w (FoPost base r p nb fb s d w ev (if 20 ≤ d then .bad 4 i l else gp s f 3 (d + 1) (bl s (i + 1)) l)) := by
  have hs := stands_of hb hc
  have hrw := h.lp.row.lt
  have A1 := fun (o : Obj) => h.kept0 (Kept.alloc (Kept.refl _ w) o)
  have c3 := fun (o : Obj) => (A1 o).1.lp.c3
  have c2 := fun (o : Obj) => (A1 o).1.lp.c2
  have MU := fun o => must_at (w.alloc o) base r p ev nb fb s i d l (A1 o).1 c hs
  go_enter Tryz.func232, Tryz.ntmps232
  by_cases h20 : 20 ≤ d
  · rw [if_pos h20]
    have dd : ((20 : Int) ≤ (d : Int)) = True := by simp; omega
    go_wp2_with (first | (go_at_call 69; refine (grefuse_any _ _ _).mono ?_; rintro e w4 ⟨rfl, rfl⟩))
    exact ⟨rfl, rfl, ev, _, d, (A1 _).1, (A1 _).2⟩
  · rw [if_neg h20]
    have dd : ((20 : Int) ≤ (d : Int)) = False := by simp; omega
    cases hg : gp s f 3 (d + 1) (bl s (i + 1)) l with
    | bad e0 q0 l0 =>
      go_wp2_with (first | (go_at_call 112; refine (MU _).mono ?_; rintro e w3 ⟨rfl, P3, G3⟩; have c33 := P3.lp.c3; have f33 := P3.lp.row.frozen 3; have D3 := P3.deep (d + 1); rw [show ((d + 1 : Nat) : Int) = (d : Int) + 1 from by omega] at D3; have C3 := H _ base r p ev nb fb s _ (d + 1) l D3.1 hf (by omega); rw [hg] at C3) | (go_at_call 194; refine C3.mono ?_; rintro e w5 ⟨rfl, ev5, k5, d5, P5, G5⟩))
      exact ⟨rfl, rfl, ev5, k5, d5, P5, (((A1 _).2.trans G3).trans D3.2).trans G5⟩
    | ok g0 k0 l0 =>
      go_wp2_with (first | (go_at_call 112; refine (MU _).mono ?_; rintro e w3 ⟨rfl, P3, G3⟩; have c33 := P3.lp.c3; have f33 := P3.lp.row.frozen 3; have D3 := P3.deep (d + 1); rw [show ((d + 1 : Nat) : Int) = (d : Int) + 1 from by omega] at D3; have C3 := H _ base r p ev nb fb s _ (d + 1) l D3.1 hf (by omega); rw [hg] at C3) | (go_at_call 194; refine C3.mono ?_; rintro e w5 ⟨v5, rfl, V5, ev5, P5, G5⟩; obtain ⟨op5, x5, y5, a5, n5, cap5, rfl⟩ := V5.form; have hlt0 : w.heap.size + 1 ≤ w3.heap.size := (by have := G3.kept.size; simp at this; omega); have F5 := rowIs_keep ((((A1 _).1.fkeep G3 w.heap.size).trans (P3.fkeep D3.2 _)).trans (D3.1.fkeep G5 _)) (Nat.le_refl _) (made_form w (.int .i64 0) (.int .i64 0) (.int .i64 0) (.slice none 0 0)); obtain ⟨z0, z1, z2, z3⟩ := form_cells F5; have y0 := World.rowIs.frozen F5 0; have y1 := World.rowIs.frozen F5 1; have y2 := World.rowIs.frozen F5 2; have y3 := World.rowIs.frozen F5 3; have hlt := World.rowIs.lt F5; have c53 := P5.lp.c3; have f53 := P5.lp.row.frozen 3; have hr5 := P5.lp.row.lt; have hn1 : ¬ w.heap.size = r := (by omega); have hn2 : ¬ r = w.heap.size := (by omega)))
      have D5 := P5.deep d
      have F6 := rowIs_keep (P5.fkeep D5.2 w.heap.size) (Nat.le_refl _) F5
      have hb5 : w.heap.size + 1 ≤ (w3.setCell ⟨r, 3, none⟩ (.int .u64 ((d : Int) + 1))).heap.size := by simp [World.setCell]; omega
      have V6 := ((V5.mono hb5).keep (P5.fkeep D5.2 _))
      have N := fin_box D5.1 F6 V6 (((((A1 _).2.trans G3).trans D3.2).trans G5).trans D5.2) (Kept.alloc (Kept.refl _ _) (.cells #[.int .i64 op5, .int .i64 x5, .int .i64 y5, .slice a5 n5 cap5] 36))
      unfold put4 at N
      clear z0 z1 z2 z3 y0 y1 y2 y3 c53 f53 c3 c2 MU C3
      generalize (((((w5.setCell ⟨r, 3, none⟩ (.int .u64 (d : Int))).setCell ⟨w.heap.size, 0, none⟩ (.int .i64 op5)).setCell ⟨w.heap.size, 1, none⟩ (.int .i64 x5)).setCell ⟨w.heap.size, 2, none⟩ (.int .i64 y5)).setCell ⟨w.heap.size, 3, none⟩ (.slice a5 n5 cap5)).alloc (.cells #[.int .i64 op5, .int .i64 x5, .int .i64 y5, .slice a5 n5 cap5] 36) = w8 at N ⊢
      obtain ⟨z0, z1, z2, z3, V8, P8, G8⟩ := N
      refine ⟨rfl, .agg #[.int .i64 op5, .int .i64 x5, .int .i64 y5, .slice a5 n5 cap5], by simp [results, Tryz.results232, go_sem, z0, z1, z2, z3], ?_⟩
      exact ⟨_, rfl, V8, ev5, P8, G8⟩

set_option maxRecDepth 100000 in
set_option maxHeartbeats 1000000 in
theorem within_form (f : Nat) (H : At 68 0 f) (w : World) (base r p : Nat) (ev : Value) (nb fb : Nat) (s : ByteArray) (i d : Nat) (l : List Tm) (h : PB w base r p ev nb fb s i d l) (c : Nat) (hc : c ≠ 0) (hb : byt s i = c) (hd : d ≤ 20) (hf : 6 * (s.size - bl s (i + 1)) + 5 ≤ f + 0) :
    Calls Tryz.prog 232 #[.pointer (some ⟨r, 0, none⟩), .int .u8 (c : Int), .func (.func 68) #[.pointer (some ⟨r, 0, none⟩)] #[]] w (FoPost base r p nb fb s d w ev (if 20 ≤ d then .bad 4 i l else gp s f 0 (d + 1) (bl s (i + 1)) l)) := by
  have hs := stands_of hb hc
  have hrw := h.lp.row.lt
  have A1 := fun (o : Obj) => h.kept0 (Kept.alloc (Kept.refl _ w) o)
  have c3 := fun (o : Obj) => (A1 o).1.lp.c3
  have c2 := fun (o : Obj) => (A1 o).1.lp.c2
  have MU := fun o => must_at (w.alloc o) base r p ev nb fb s i d l (A1 o).1 c hs
  go_enter Tryz.func232, Tryz.ntmps232
  by_cases h20 : 20 ≤ d
  · rw [if_pos h20]
    have dd : ((20 : Int) ≤ (d : Int)) = True := by simp; omega
    go_wp2_with (first | (go_at_call 69; refine (grefuse_any _ _ _).mono ?_; rintro e w4 ⟨rfl, rfl⟩))
    exact ⟨rfl, rfl, ev, _, d, (A1 _).1, (A1 _).2⟩
  · rw [if_neg h20]
    have dd : ((20 : Int) ≤ (d : Int)) = False := by simp; omega
    cases hg : gp s f 0 (d + 1) (bl s (i + 1)) l with
    | bad e0 q0 l0 =>
      go_wp2_with (first | (go_at_call 112; refine (MU _).mono ?_; rintro e w3 ⟨rfl, P3, G3⟩; have c33 := P3.lp.c3; have f33 := P3.lp.row.frozen 3; have D3 := P3.deep (d + 1); rw [show ((d + 1 : Nat) : Int) = (d : Int) + 1 from by omega] at D3; have C3 := H _ base r p ev nb fb s _ (d + 1) l D3.1 hf (by omega); rw [hg] at C3) | (go_at_call 68; refine C3.mono ?_; rintro e w5 ⟨rfl, ev5, k5, d5, P5, G5⟩))
      exact ⟨rfl, rfl, ev5, k5, d5, P5, (((A1 _).2.trans G3).trans D3.2).trans G5⟩
    | ok g0 k0 l0 =>
      go_wp2_with (first | (go_at_call 112; refine (MU _).mono ?_; rintro e w3 ⟨rfl, P3, G3⟩; have c33 := P3.lp.c3; have f33 := P3.lp.row.frozen 3; have D3 := P3.deep (d + 1); rw [show ((d + 1 : Nat) : Int) = (d : Int) + 1 from by omega] at D3; have C3 := H _ base r p ev nb fb s _ (d + 1) l D3.1 hf (by omega); rw [hg] at C3) | (go_at_call 68; refine C3.mono ?_; rintro e w5 ⟨v5, rfl, V5, ev5, P5, G5⟩; obtain ⟨op5, x5, y5, a5, n5, cap5, rfl⟩ := V5.form; have hlt0 : w.heap.size + 1 ≤ w3.heap.size := (by have := G3.kept.size; simp at this; omega); have F5 := rowIs_keep ((((A1 _).1.fkeep G3 w.heap.size).trans (P3.fkeep D3.2 _)).trans (D3.1.fkeep G5 _)) (Nat.le_refl _) (made_form w (.int .i64 0) (.int .i64 0) (.int .i64 0) (.slice none 0 0)); obtain ⟨z0, z1, z2, z3⟩ := form_cells F5; have y0 := World.rowIs.frozen F5 0; have y1 := World.rowIs.frozen F5 1; have y2 := World.rowIs.frozen F5 2; have y3 := World.rowIs.frozen F5 3; have hlt := World.rowIs.lt F5; have c53 := P5.lp.c3; have f53 := P5.lp.row.frozen 3; have hr5 := P5.lp.row.lt; have hn1 : ¬ w.heap.size = r := (by omega); have hn2 : ¬ r = w.heap.size := (by omega)))
      have D5 := P5.deep d
      have F6 := rowIs_keep (P5.fkeep D5.2 w.heap.size) (Nat.le_refl _) F5
      have hb5 : w.heap.size + 1 ≤ (w3.setCell ⟨r, 3, none⟩ (.int .u64 ((d : Int) + 1))).heap.size := by simp [World.setCell]; omega
      have V6 := ((V5.mono hb5).keep (P5.fkeep D5.2 _))
      have N := fin_box D5.1 F6 V6 (((((A1 _).2.trans G3).trans D3.2).trans G5).trans D5.2) (Kept.alloc (Kept.refl _ _) (.cells #[.int .i64 op5, .int .i64 x5, .int .i64 y5, .slice a5 n5 cap5] 36))
      unfold put4 at N
      clear z0 z1 z2 z3 y0 y1 y2 y3 c53 f53 c3 c2 MU C3
      generalize (((((w5.setCell ⟨r, 3, none⟩ (.int .u64 (d : Int))).setCell ⟨w.heap.size, 0, none⟩ (.int .i64 op5)).setCell ⟨w.heap.size, 1, none⟩ (.int .i64 x5)).setCell ⟨w.heap.size, 2, none⟩ (.int .i64 y5)).setCell ⟨w.heap.size, 3, none⟩ (.slice a5 n5 cap5)).alloc (.cells #[.int .i64 op5, .int .i64 x5, .int .i64 y5, .slice a5 n5 cap5] 36) = w8 at N ⊢
      obtain ⟨z0, z1, z2, z3, V8, P8, G8⟩ := N
      refine ⟨rfl, .agg #[.int .i64 op5, .int .i64 x5, .int .i64 y5, .slice a5 n5 cap5], by simp [results, Tryz.results232, go_sem, z0, z1, z2, z3], ?_⟩
      exact ⟨_, rfl, V8, ev5, P8, G8⟩

end Go.Proofs.YtlehlgipbhfioaaGreat

namespace Go.Proofs.YtlehlgipbhfioaaGreat
open Go.RowKit

def Zs.re (z : Zs) (jv bv : Value) : Zs := { z with jv := jv, bv := bv }

/-- Where the rows of joins and of steps lie does not matter. -/
theorem Chain.re {l : List Tm} {a b : Zs} (h : Chain l a b) : ∀ jv bv, ∃ ja ba, Chain l (a.re ja ba) (b.re jv bv) := by
  induction h with
  | refl => exact fun jv bv => ⟨jv, bv, .refl _⟩
  | @like b n s bc bx v hc h1 h2 ih =>
    intro jv bv
    obtain ⟨ja, ba, hh⟩ := ih jv bv
    exact ⟨ja, ba, Chain.like n s bc bx bv hh h1 h2⟩
  | @join b low high bc bm bo bl j' st2 v bv' hc h1 h2 h3 ih =>
    intro jv bv
    obtain ⟨ja, ba, hh⟩ := ih jv bv
    exact ⟨ja, ba, Chain.join low high bc bm bo bl jv st2 v bv hh h1 h2 h3⟩

/-- What a state says between two calls. -/
structure GoodZ (l : List Tm) (z : Zs) (P : List (Nat × Nat)) : Prop where
  inv : Cc.Inv l P z.g.lo z.us z.kn [] []
  ms : z.ms ≤ l.length + z.t.length * (4 * l.length)
  bs : z.bs.length ≤ z.t.length * (4 * l.length + 1)
  argsAt : ∀ (i : Nat) (t : Tm), l[i]? = some t → UseIs z.st (z.av i) t.args
  usesAt : ∀ i, i < l.length → UseIs z.st (z.uv i) (z.us i)

theorem GoodZ.re {l : List Tm} {z : Zs} {P : List (Nat × Nat)} (h : GoodZ l z P) (jv bv : Value) : GoodZ l (z.re jv bv) P := ⟨h.inv, h.ms, h.bs, h.argsAt, h.usesAt⟩
theorem Un.good {w : World} {base : Nat} {l : List Tm} {z : Zs} {P : List (Nat × Nat)} (h : Un w base l z P [] []) : GoodZ l z P :=
  ⟨h.inv, by simpa using h.ms, by simpa using h.bs, h.cz.argsAt, h.cz.usesAt⟩

/-- The states that a closure came by, a mark for each pair that it was told. -/
inductive Past (l : List Tm) : Zs → List (Nat × Nat) → List Nat → Prop
  | start (z : Zs) : GoodZ l z [] → Past l z [] []
  | tell {z0 z : Zs} {P : List (Nat × Nat)} {told : List Nat} (ab : Nat × Nat) : Past l z0 P told → Chain l z0 z → GoodZ l z (P ++ [ab]) → Past l z (P ++ [ab]) (told ++ [z0.bs.length])

theorem Past.good {l : List Tm} {z : Zs} {P : List (Nat × Nat)} {told : List Nat} : Past l z P told → GoodZ l z P
  | .start _ h => h
  | .tell _ _ _ h => h
theorem Past.num {l : List Tm} {z : Zs} {P : List (Nat × Nat)} {told : List Nat} (h : Past l z P told) : told.length = P.length := by
  induction h with
  | start => rfl
  | tell ab _ _ _ ih => simp [ih]
theorem Past.re {l : List Tm} {z : Zs} {P : List (Nat × Nat)} {told : List Nat} (h : Past l z P told) : ∀ jv bv, Past l (z.re jv bv) P told := by
  induction h with
  | start z h => exact fun jv bv => .start _ (h.re jv bv)
  | @tell z0 z P told ab hp hc hg ih =>
    intro jv bv
    obtain ⟨ja, ba, hh⟩ := hc.re jv bv
    exact Past.tell (z0 := z0.re ja ba) ab (ih ja ba) hh (hg.re jv bv)

/-- The state at a mark. -/
theorem Past.cut {l : List Tm} {z : Zs} {P : List (Nat × Nat)} {told : List Nat} (h : Past l z P told) : ∀ m, m < told.length → ∃ z0, Past l z0 (P.take m) (told.take m) ∧ Chain l z0 z ∧ told[m]? = some z0.bs.length := by
  induction h with
  | start => intro m hm; exact absurd hm (Nat.not_lt_zero _)
  | @tell z0 z P told ab hp hc hg ih =>
    intro m hm
    have hn := hp.num
    by_cases e : m < told.length
    · obtain ⟨y, h1, h2, h3⟩ := ih m e
      refine ⟨y, ?_, h2.trans hc, ?_⟩
      · rw [List.take_append_of_le_length (by omega), List.take_append_of_le_length (by omega)]
        exact h1
      · rw [List.getElem?_append_left e]
        exact h3
    · have em : m = told.length := by simp at hm; omega
      subst em
      refine ⟨z0, ?_, hc, by simp⟩
      rw [List.take_left, hn, List.take_left]
      exact hp

/-- A state that was come by before lies in memory again. -/
theorem Cz.past {w : World} {base : Nat} {l : List Tm} {z z0 : Zs} {jv bv : Value} (h : Cz w base l { z.with z0 jv with bv := bv, bs := z0.bs }) (hc : Chain l z0 z) {P : List (Nat × Nat)} (hg : GoodZ l z0 P) (hj : jv.ownBlock = z.jv.ownBlock) (hb : bv.ownBlock = z.bv.ownBlock) : Cz w base l (z0.re jv bv) := by
  obtain ⟨e1, e2, e3, e4, e5, e6, e7⟩ := hc.same
  have hst := hc.st
  obtain ⟨a1, a2, a3, a4, a5, a6, a7, a8, a9, a10, a11, a12, a13, a14, a15, a16, a17⟩ := h
  simp only [Zs.with] at a1 a2 a3 a4 a5 a6 a7 a8 a14 a15 a16 a17
  cases z0 with
  | mk pk ps nb tb ub mb jv0 bv0 av uv g t bs st us kn ms =>
  cases z with
  | mk pk' ps' nb' tb' ub' mb' jv0' bv0' av' uv' g' t' bs' st' us' kn' ms' =>
  simp only at e1 e2 e3 e4 e5 e6 e7
  subst e1 e2 e3 e4 e5 e6 e7
  exact ⟨a1, a2, a3, a4, a5, a6, fun x hx => a7 x (hst x hx), fun x hx => a8 x (hst x hx), hg.argsAt, hg.usesAt, a11, a12, a13, a14, a15, a16, a17⟩

theorem Cz.past_un {w : World} {base : Nat} {l : List Tm} {z z0 : Zs} {jv bv : Value} (h : Cz w base l { z.with z0 jv with bv := bv, bs := z0.bs }) (hc : Chain l z0 z) {P : List (Nat × Nat)} (hg : GoodZ l z0 P) (hj : jv.ownBlock = z.jv.ownBlock) (hb : bv.ownBlock = z.bv.ownBlock) (hl : base ≤ w.heap.size) : Un w base l (z0.re jv bv) P [] [] :=
  ⟨h.past hc hg hj hb, hg.inv, hg.ms, hg.bs, by simp, hl⟩

end Go.Proofs.YtlehlgipbhfioaaGreat

namespace Go.Proofs.YtlehlgipbhfioaaGreat
open Go.RowKit Go.Shelf

/-- A Not of one Equal. -/
def isUn (x : Lf) : Bool := x.op == 1 && (match x.kids with
  | [k] => k.op == 0
  | _ => false)
/-- What stands behind d Kids. -/
def sgnA (x : Lf) (d : Nat) : List UInt8 :=
  if x.op = 1 then (if d = 0 then [33] else []) else if d = 0 then [40] else if d = x.kids.length then [41] else if x.op = 2 then [38] else if x.op = 3 then [124] else if x.op = 4 then [45, 62] else [63]

end Go.Proofs.YtlehlgipbhfioaaGreat

namespace Go.Proofs.YtlehlgipbhfioaaGreat
open Go.RowKit Go.Shelf

section
variable {β : Type}

/-- What a Form comes to, if each one's value is made of those of its Kids. -/
def fo (g : Lf → List β → β) (t : Lf) : β := g t (t.ks.attach.map fun k => fo g k.1)
termination_by SizeOf.sizeOf t
decreasing_by exact ks_lt k.2

theorem fo_eq (g : Lf → List β → β) (t : Lf) : fo g t = g t (t.ks.map (fo g)) := by
  rw [fo]
  congr 1
  exact List.attach_map_val (l := t.ks) (f := fo g) ▸ rfl

/-- A Form behind its Kids, whose values are the last ones. -/
def foS (g : Lf → List β → β) (vs : List β) (x : Lf) : List β := vs.take (vs.length - x.ks.length) ++ [g x (vs.drop (vs.length - x.ks.length))]

/-- There are always enough values. -/
def Fine (g : Lf → List β → β) : List β → List Lf → Prop
  | _, [] => True
  | vs, x :: l => x.ks.length ≤ vs.length ∧ Fine g (foS g vs x) l

theorem Fine.app {g : Lf → List β → β} : ∀ {vs : List β} {l1 l2 : List Lf}, Fine g vs l1 → Fine g (l1.foldl (foS g) vs) l2 → Fine g vs (l1 ++ l2)
  | _, [], _, _, h => h
  | _, _ :: _, _, h1, h2 => ⟨h1.1, Fine.app h1.2 h2⟩
theorem Fine.at {g : Lf → List β → β} : ∀ {vs : List β} {l : List Lf} {i : Nat} {x : Lf}, Fine g vs l → l[i]? = some x → x.ks.length ≤ ((l.take i).foldl (foS g) vs).length
  | _, y :: l, 0, x, h, hi => by
    simp at hi
    subst hi
    exact h.1
  | vs, y :: l, i + 1, x, h, hi => by
    simp at hi
    simpa using Fine.at h.2 hi

theorem wk_fold (g : Lf → List β → β) (t : Lf) (d : Nat) (hd : d ≤ t.ks.length) (vs : List β) :
    ((wk t d).filterMap isEnd).foldl (foS g) (vs ++ (t.ks.take d).map (fo g)) = vs ++ [fo g t] ∧ Fine g (vs ++ (t.ks.take d).map (fo g)) ((wk t d).filterMap isEnd) := by
  cases h : t.ks[d]? with
  | none =>
    have hl : d = t.ks.length := by
      have := List.getElem?_eq_none_iff.1 h
      omega
    have he : isEnd (t, d) = some t := by simp [isEnd, hl]
    have hz : (vs ++ (t.ks.take d).map (fo g)).length - t.ks.length = vs.length := by simp; omega
    rw [wk_end h, List.filterMap_cons_some he, List.filterMap_nil]
    refine ⟨?_, ?_, trivial⟩
    · simp only [List.foldl_cons, List.foldl_nil, foS]
      rw [hz, List.take_left', List.drop_left']
      · rw [fo_eq, hl, List.take_length]
      · rfl
      · rfl
    · simp; omega
  | some k =>
    have hlt := (List.getElem?_eq_some_iff.1 h).1
    have he : isEnd (t, d) = none := by simp [isEnd]; omega
    have hk := wk_fold g k 0 (Nat.zero_le _) (vs ++ (t.ks.take d).map (fo g))
    have ht := wk_fold g t (d + 1) hlt vs
    have e1 : vs ++ (t.ks.take d).map (fo g) ++ [fo g k] = vs ++ (t.ks.take (d + 1)).map (fo g) := by
      rw [List.take_add_one, h]
      simp
    simp only [List.take_zero, List.map_nil, List.append_nil] at hk
    rw [wk_step h, List.filterMap_cons_none he, List.filterMap_append]
    refine ⟨?_, ?_⟩
    · rw [List.foldl_append, hk.1, e1]
      exact ht.1
    · refine Fine.app hk.2 ?_
      rw [hk.1, e1]
      exact ht.2
termination_by (SizeOf.sizeOf t, t.ks.length - d)
decreasing_by
  · exact Prod.Lex.left _ _ (ks_lt (List.mem_of_getElem? h))
  · exact Prod.Lex.right _ (by omega)

/-- The values behind the first i Forms. -/
def stV (g : Lf → List β → β) (t : Lf) (i : Nat) : List β := ((es t).take i).foldl (foS g) []
theorem stV_zero (g : Lf → List β → β) (t : Lf) : stV g t 0 = [] := rfl
theorem stV_step {g : Lf → List β → β} {t x : Lf} {i : Nat} (h : (es t)[i]? = some x) : stV g t (i + 1) = foS g (stV g t i) x ∧ x.ks.length ≤ (stV g t i).length := by
  have F := (wk_fold g t 0 (Nat.zero_le _) []).2
  refine ⟨?_, Fine.at F h⟩
  unfold stV
  rw [List.take_add_one, h]
  simp
theorem stV_all (g : Lf → List β → β) (t : Lf) : stV g t (es t).length = [fo g t] := by
  have := (wk_fold g t 0 (Nat.zero_le _) []).1
  unfold stV
  rw [List.take_length]
  simpa [es] using this
theorem foS_len (g : Lf → List β → β) (vs : List β) (x : Lf) : (foS g vs x).length ≤ vs.length + 1 := by
  simp [foS]
theorem stV_len (g : Lf → List β → β) (t : Lf) : ∀ i : Nat, (stV g t i).length ≤ i
  | 0 => by simp [stV]
  | i + 1 => by
    cases h : (es t)[i]? with
    | none =>
      have : stV g t (i + 1) = stV g t i := by unfold stV; rw [List.take_add_one, h]; simp
      rw [this]
      have := stV_len g t i
      omega
    | some x =>
      rw [(stV_step h).1]
      have h1 := foS_len g (stV g t i) x
      have h2 := stV_len g t i
      omega

end

end Go.Proofs.YtlehlgipbhfioaaGreat

namespace Go.Proofs.YtlehlgipbhfioaaGreat
open Go.RowKit Go.Shelf

def ofB (l : List UInt8) : ByteArray := ⟨l.toArray⟩
theorem ofB_size (l : List UInt8) : (ofB l).size = l.length := by
  show l.toArray.size = l.length
  simp
theorem cat_len {a c : List UInt8} {x y : ByteArray} {N : Nat} (h : (a ++ (x.data.toList ++ c ++ y.data.toList)).length ≤ N) : a.length + (x.size + c.length + y.size) ≤ N := by
  rw [List.length_append, List.length_append, List.length_append, Array.length_toList, Array.length_toList] at h
  exact h
theorem ofB_cells (l : List UInt8) : Lib.strCells (ofB l) = Lib.byteCells l := by
  rw [Lib.strCells_eq]
  rfl
/-- What the program has written, and the sign it keeps for the next equality. -/
abbrev Sh := List UInt8 × List UInt8
def shS (l : List Tm) (s : Sh) (x : Lf × Nat) : Sh :=
  if x.1.op = 0 then (s.1 ++ ((shwB l x.1.x).data.toList ++ s.2 ++ (shwB l x.1.y).data.toList), [61])
  else if isUn x.1 && x.2 == 0 then (s.1, [33, 61])
  else (s.1 ++ sgnA x.1 x.2, s.2)
def shG (l : List Tm) (xs : List (Lf × Nat)) : Sh := xs.foldl (shS l) ([], [61])

end Go.Proofs.YtlehlgipbhfioaaGreat

namespace Go.Proofs.YtlehlgipbhfioaaGreat
open Go.RowKit Go.Shelf

attribute [local go_sem] Oper.semAt_some

theorem region_roundH {l n id : Nat} {Q : Exit → Act → World → Prop} {ops : Array Oper} {a : Act} {w : World} (S : World → Prop) (hno : ops.any (fun o => isDefer o.op) = false) (hQ : ¬ LetsOut Q) (h0 : S w.drew) (h : S w.drew → wpAnyH Tryz.prog .any ops Q S ops.size (Array.replicate ops.size false) a w.drew) :
    (Code.region id ops true).wpIn (Fence.wide.inRound l) n Tryz.prog Q a w :=
  region_round hno hQ (wpAny_of_held _ _ _ _ (h h0))

theorem one_rowS (w : World) (v : Value) (ty : TypeId) : (w.alloc (.cells #[v] ty)).rowIs w.heap.size ty 1 (fun _ => v) := World.rowIs.congr (made_row w #[v] ty) (fun j hj => by
  have : j = 0 := by simp at hj; omega
  subst this; rfl)
theorem row_allocS {w : World} {b n : Nat} {f : Nat → Value} {ty : TypeId} (o : Obj) (h : w.rowIs b ty n f) : (w.alloc o).rowIs b ty n f := h.of_block (Below.heap_alloc w o b (World.rowIs.lt h))

end Go.Proofs.YtlehlgipbhfioaaGreat
