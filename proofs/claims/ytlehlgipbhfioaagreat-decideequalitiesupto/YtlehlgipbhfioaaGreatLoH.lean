/- Package logic: within, not, row, form. -/
import Derived.Test.YtlehlgipbhfioaaGreatP46
namespace Go.Proofs.YtlehlgipbhfioaaGreat
open Go.RowKit Go.Maps

/-- A function that reads a formula, at a level. -/
def At (fn lev f : Nat) : Prop := ∀ (w : World) (base r p : Nat) (ev : Value) (nb fb : Nat) (s : ByteArray) (i d : Nat) (l : List Tm), PB w base r p ev nb fb s i d l → 6 * (s.size - i) + 5 ≤ f + lev → d ≤ 20 →
  Calls Tryz.prog fn #[.pointer (some ⟨r, 0, none⟩)] w (FoPost base r p nb fb s d w ev (gp s f lev d i l))

/-- A Form is put into the box of the result. -/
theorem fin_box {w W W'' : World} {base r p : Nat} {ev ev' : Value} {nb fb : Nat} {s : ByteArray} {k d : Nat} {l : List Tm} (P : PB W base r p ev' nb fb s k d l) {f : Nat → Value} (F : W.rowIs w.heap.size 36 4 f) {op x y : Int} {a : Option Addr} {n cap : Nat} {g : Fo}
    (V : FVal (w.heap.size + 1) W (.agg #[.int .i64 op, .int .i64 x, .int .i64 y, .slice a n cap]) g) (G : Grew (fun k => k = r) p nb fb w ev W ev') (K : Kept0 (put4 W w.heap.size (.int .i64 op) (.int .i64 x) (.int .i64 y) (.slice a n cap)) W'') :
    W''.cell? ⟨w.heap.size, 0, none⟩ = some (.int .i64 op) ∧ W''.cell? ⟨w.heap.size, 1, none⟩ = some (.int .i64 x) ∧ W''.cell? ⟨w.heap.size, 2, none⟩ = some (.int .i64 y) ∧ W''.cell? ⟨w.heap.size, 3, none⟩ = some (.slice a n cap) ∧
      FVal w.heap.size W'' (.agg #[.int .i64 op, .int .i64 x, .int .i64 y, .slice a n cap]) g ∧ PB W'' base r p ev' nb fb s k d l ∧ Grew (fun k => k = r) p nb fb w ev W'' ev' := by
  have F8 := put_form F (.int .i64 op) (.int .i64 x) (.int .i64 y) (.slice a n cap)
  have P8 := P.put4 F (.int .i64 op) (.int .i64 x) (.int .i64 y) (.slice a n cap)
  have V8 := (V.keep (put_keep (Nat.lt_succ_self w.heap.size) (.int .i64 op) (.int .i64 x) (.int .i64 y) (.slice a n cap))).mono (Nat.le_succ _)
  have G8 := G.put4 (Nat.le_refl w.heap.size) (.int .i64 op) (.int .i64 x) (.int .i64 y) (.slice a n cap)
  have F9 := rowIs_keep (FKeep.kept0 K w.heap.size) (Nat.le_refl _) F8
  obtain ⟨z0, z1, z2, z3⟩ := form_cells F9
  have P9 := P8.kept0 K
  exact ⟨z0, z1, z2, z3, V8.keep (FKeep.kept0 K _), P9.1, G8.trans P9.2⟩

set_option maxRecDepth 100000 in
set_option maxHeartbeats 1000000 in
theorem within_not (f : Nat) (H : At 194 3 f) (w : World) (base r p : Nat) (ev : Value) (nb fb : Nat) (s : ByteArray) (i d : Nat) (l : List Tm) (h : PB w base r p ev nb fb s i d l) (c : Nat) (hc : c ≠ 0) (hb : byt s i = c) (hd : d ≤ 20) (hf : 6 * (s.size - bl s (i + 1)) + 5 ≤ f + 3) :
    Calls Tryz.prog 232 #[.pointer (some ⟨r, 0, none⟩), .int .u8 (c : Int), .func (.func 194) #[.pointer (some ⟨r, 0, none⟩)] #[]] w (FoPost base r p nb fb s d w ev (if 20 ≤ d then .bad 4 i l else gp s f 3 (d + 1) (bl s (i + 1)) l)) := by
  have hs := stands_of hb hc
  have hrw := h.lp.row.lt
  have A1 := fun (o : Obj) => h.kept0 (Kept.alloc (Kept.refl _ w) o)
  have c3 := fun (o : Obj) => (A1 o).1.lp.c3
  have c2 := fun (o : Obj) => (A1 o).1.lp.c2
  have MU := fun o => must_at (w.alloc o) base r p ev nb fb s i d l (A1 o).1 c hs
  go_enter Tryz.func232, Tryz.ntmps232
  by_cases h20 : 20 ≤ d
  · rw [if_pos h20]
    have dd : ((20 : Int) ≤ (d : Int)) = True := by simp; omega
    go_wp2_with (first | (go_at_call 69; refine (grefuse_any _ _ _).mono ?_; rintro e w4 ⟨rfl, rfl⟩))
    exact ⟨rfl, rfl, ev, _, d, (A1 _).1, (A1 _).2⟩
  · rw [if_neg h20]
    have dd : ((20 : Int) ≤ (d : Int)) = False := by simp; omega
    cases hg : gp s f 3 (d + 1) (bl s (i + 1)) l with
    | bad e0 q0 l0 =>
      go_wp2_with (first | (go_at_call 112; refine (MU _).mono ?_; rintro e w3 ⟨rfl, P3, G3⟩; have c33 := P3.lp.c3; have f33 := P3.lp.row.frozen 3; have D3 := P3.deep (d + 1); rw [show ((d + 1 : Nat) : Int) = (d : Int) + 1 from by omega] at D3; have C3 := H _ base r p ev nb fb s _ (d + 1) l D3.1 hf (by omega); rw [hg] at C3) | (go_at_call 194; refine C3.mono ?_; rintro e w5 ⟨rfl, ev5, k5, d5, P5, G5⟩))
      exact ⟨rfl, rfl, ev5, k5, d5, P5, (((A1 _).2.trans G3).trans D3.2).trans G5⟩
    | ok g0 k0 l0 =>
      go_wp2_with (first | (go_at_call 112; refine (MU _).mono ?_; rintro e w3 ⟨rfl, P3, G3⟩; have c33 := P3.lp.c3; have f33 := P3.lp.row.frozen 3; have D3 := P3.deep (d + 1); rw [show ((d + 1 : Nat) : Int) = (d : Int) + 1 from by omega] at D3; have C3 := H _ base r p ev nb fb s _ (d + 1) l D3.1 hf (by omega); rw [hg] at C3) | (go_at_call 194; refine C3.mono ?_; rintro e w5 ⟨v5, rfl, V5, ev5, P5, G5⟩; obtain ⟨op5, x5, y5, a5, n5, cap5, rfl⟩ := V5.form; have hlt0 : w.heap.size + 1 ≤ w3.heap.size := (by have := G3.kept.size; simp at this; omega); have F5 := rowIs_keep ((((A1 _).1.fkeep G3 w.heap.size).trans (P3.fkeep D3.2 _)).trans (D3.1.fkeep G5 _)) (Nat.le_refl _) (made_form w (.int .i64 0) (.int .i64 0) (.int .i64 0) (.slice none 0 0)); obtain ⟨z0, z1, z2, z3⟩ := form_cells F5; have y0 := World.rowIs.frozen F5 0; have y1 := World.rowIs.frozen F5 1; have y2 := World.rowIs.frozen F5 2; have y3 := World.rowIs.frozen F5 3; have hlt := World.rowIs.lt F5; have c53 := P5.lp.c3; have f53 := P5.lp.row.frozen 3; have hr5 := P5.lp.row.lt; have hn1 : ¬ w.heap.size = r := (by omega); have hn2 : ¬ r = w.heap.size := (by omega)))
      have D5 := P5.deep d
      have F6 := rowIs_keep (P5.fkeep D5.2 w.heap.size) (Nat.le_refl _) F5
      have hb5 : w.heap.size + 1 ≤ (w3.setCell ⟨r, 3, none⟩ (.int .u64 ((d : Int) + 1))).heap.size := by simp [World.setCell]; omega
      have V6 := ((V5.mono hb5).keep (P5.fkeep D5.2 _))
      have N := fin_box D5.1 F6 V6 (((((A1 _).2.trans G3).trans D3.2).trans G5).trans D5.2) (Kept.alloc (Kept.refl _ _) (.cells #[.int .i64 op5, .int .i64 x5, .int .i64 y5, .slice a5 n5 cap5] 36))
      unfold put4 at N
      clear z0 z1 z2 z3 y0 y1 y2 y3 c53 f53 c3 c2 MU C3
      generalize (((((w5.setCell ⟨r, 3, none⟩ (.int .u64 (d : Int))).setCell ⟨w.heap.size, 0, none⟩ (.int .i64 op5)).setCell ⟨w.heap.size, 1, none⟩ (.int .i64 x5)).setCell ⟨w.heap.size, 2, none⟩ (.int .i64 y5)).setCell ⟨w.heap.size, 3, none⟩ (.slice a5 n5 cap5)).alloc (.cells #[.int .i64 op5, .int .i64 x5, .int .i64 y5, .slice a5 n5 cap5] 36) = w8 at N ⊢
      obtain ⟨z0, z1, z2, z3, V8, P8, G8⟩ := N
      refine ⟨rfl, .agg #[.int .i64 op5, .int .i64 x5, .int .i64 y5, .slice a5 n5 cap5], by simp [results, Tryz.results232, go_sem, z0, z1, z2, z3], ?_⟩
      exact ⟨_, rfl, V8, ev5, P8, G8⟩

set_option maxRecDepth 100000 in
set_option maxHeartbeats 1000000 in
theorem within_form (f : Nat) (H : At 68 0 f) (w : World) (base r p : Nat) (ev : Value) (nb fb : Nat) (s : ByteArray) (i d : Nat) (l : List Tm) (h : PB w base r p ev nb fb s i d l) (c : Nat) (hc : c ≠ 0) (hb : byt s i = c) (hd : d ≤ 20) (hf : 6 * (s.size - bl s (i + 1)) + 5 ≤ f + 0) :
    Calls Tryz.prog 232 #[.pointer (some ⟨r, 0, none⟩), .int .u8 (c : Int), .func (.func 68) #[.pointer (some ⟨r, 0, none⟩)] #[]] w (FoPost base r p nb fb s d w ev (if 20 ≤ d then .bad 4 i l else gp s f 0 (d + 1) (bl s (i + 1)) l)) := by
  have hs := stands_of hb hc
  have hrw := h.lp.row.lt
  have A1 := fun (o : Obj) => h.kept0 (Kept.alloc (Kept.refl _ w) o)
  have c3 := fun (o : Obj) => (A1 o).1.lp.c3
  have c2 := fun (o : Obj) => (A1 o).1.lp.c2
  have MU := fun o => must_at (w.alloc o) base r p ev nb fb s i d l (A1 o).1 c hs
  go_enter Tryz.func232, Tryz.ntmps232
  by_cases h20 : 20 ≤ d
  · rw [if_pos h20]
    have dd : ((20 : Int) ≤ (d : Int)) = True := by simp; omega
    go_wp2_with (first | (go_at_call 69; refine (grefuse_any _ _ _).mono ?_; rintro e w4 ⟨rfl, rfl⟩))
    exact ⟨rfl, rfl, ev, _, d, (A1 _).1, (A1 _).2⟩
  · rw [if_neg h20]
    have dd : ((20 : Int) ≤ (d : Int)) = False := by simp; omega
    cases hg : gp s f 0 (d + 1) (bl s (i + 1)) l with
    | bad e0 q0 l0 =>
      go_wp2_with (first | (go_at_call 112; refine (MU _).mono ?_; rintro e w3 ⟨rfl, P3, G3⟩; have c33 := P3.lp.c3; have f33 := P3.lp.row.frozen 3; have D3 := P3.deep (d + 1); rw [show ((d + 1 : Nat) : Int) = (d : Int) + 1 from by omega] at D3; have C3 := H _ base r p ev nb fb s _ (d + 1) l D3.1 hf (by omega); rw [hg] at C3) | (go_at_call 68; refine C3.mono ?_; rintro e w5 ⟨rfl, ev5, k5, d5, P5, G5⟩))
      exact ⟨rfl, rfl, ev5, k5, d5, P5, (((A1 _).2.trans G3).trans D3.2).trans G5⟩
    | ok g0 k0 l0 =>
      go_wp2_with (first | (go_at_call 112; refine (MU _).mono ?_; rintro e w3 ⟨rfl, P3, G3⟩; have c33 := P3.lp.c3; have f33 := P3.lp.row.frozen 3; have D3 := P3.deep (d + 1); rw [show ((d + 1 : Nat) : Int) = (d : Int) + 1 from by omega] at D3; have C3 := H _ base r p ev nb fb s _ (d + 1) l D3.1 hf (by omega); rw [hg] at C3) | (go_at_call 68; refine C3.mono ?_; rintro e w5 ⟨v5, rfl, V5, ev5, P5, G5⟩; obtain ⟨op5, x5, y5, a5, n5, cap5, rfl⟩ := V5.form; have hlt0 : w.heap.size + 1 ≤ w3.heap.size := (by have := G3.kept.size; simp at this; omega); have F5 := rowIs_keep ((((A1 _).1.fkeep G3 w.heap.size).trans (P3.fkeep D3.2 _)).trans (D3.1.fkeep G5 _)) (Nat.le_refl _) (made_form w (.int .i64 0) (.int .i64 0) (.int .i64 0) (.slice none 0 0)); obtain ⟨z0, z1, z2, z3⟩ := form_cells F5; have y0 := World.rowIs.frozen F5 0; have y1 := World.rowIs.frozen F5 1; have y2 := World.rowIs.frozen F5 2; have y3 := World.rowIs.frozen F5 3; have hlt := World.rowIs.lt F5; have c53 := P5.lp.c3; have f53 := P5.lp.row.frozen 3; have hr5 := P5.lp.row.lt; have hn1 : ¬ w.heap.size = r := (by omega); have hn2 : ¬ r = w.heap.size := (by omega)))
      have D5 := P5.deep d
      have F6 := rowIs_keep (P5.fkeep D5.2 w.heap.size) (Nat.le_refl _) F5
      have hb5 : w.heap.size + 1 ≤ (w3.setCell ⟨r, 3, none⟩ (.int .u64 ((d : Int) + 1))).heap.size := by simp [World.setCell]; omega
      have V6 := ((V5.mono hb5).keep (P5.fkeep D5.2 _))
      have N := fin_box D5.1 F6 V6 (((((A1 _).2.trans G3).trans D3.2).trans G5).trans D5.2) (Kept.alloc (Kept.refl _ _) (.cells #[.int .i64 op5, .int .i64 x5, .int .i64 y5, .slice a5 n5 cap5] 36))
      unfold put4 at N
      clear z0 z1 z2 z3 y0 y1 y2 y3 c53 f53 c3 c2 MU C3
      generalize (((((w5.setCell ⟨r, 3, none⟩ (.int .u64 (d : Int))).setCell ⟨w.heap.size, 0, none⟩ (.int .i64 op5)).setCell ⟨w.heap.size, 1, none⟩ (.int .i64 x5)).setCell ⟨w.heap.size, 2, none⟩ (.int .i64 y5)).setCell ⟨w.heap.size, 3, none⟩ (.slice a5 n5 cap5)).alloc (.cells #[.int .i64 op5, .int .i64 x5, .int .i64 y5, .slice a5 n5 cap5] 36) = w8 at N ⊢
      obtain ⟨z0, z1, z2, z3, V8, P8, G8⟩ := N
      refine ⟨rfl, .agg #[.int .i64 op5, .int .i64 x5, .int .i64 y5, .slice a5 n5 cap5], by simp [results, Tryz.results232, go_sem, z0, z1, z2, z3], ?_⟩
      exact ⟨_, rfl, V8, ev5, P8, G8⟩

end Go.Proofs.YtlehlgipbhfioaaGreat
