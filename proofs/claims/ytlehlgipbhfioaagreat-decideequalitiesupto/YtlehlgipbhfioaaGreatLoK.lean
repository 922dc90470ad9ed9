/- Package logic: or, and, form; the recursion. -/
import Derived.Test.YtlehlgipbhfioaaGreatLoJ
import Derived.Deep.RegionWith
namespace Go.Proofs.YtlehlgipbhfioaaGreat
open Go.RowKit Go.Maps

set_option maxRecDepth 100000 in
set_option maxHeartbeats 1000000 in
theorem or_at (f : Nat) (H : ∀ g, g ≤ f → At 153 (1 + 1) g) : At 111 1 (f + 1) := by
  intro w base r p ev nb fb s i d l h hf hd
  have A1 := fun (o : Obj) => h.kept0 (Kept.alloc (Kept.refl _ w) o)
  have RW := fun o => row_or f H (w.alloc o) base r p ev nb fb s i d l (A1 o).1 (by omega) hd
  go_enter Tryz.func111, Tryz.ntmps111
  cases hg : gp s (f + 1) 1 d i l with
  | bad e0 q0 l0 =>
    rw [hg] at RW
    go_wp2_with (first | (go_at_call 152; refine (RW _).mono ?_; rintro e w5 ⟨rfl, ev5, k5, d5, P5, G5⟩))
    exact ⟨rfl, rfl, ev5, k5, d5, P5, (A1 _).2.trans G5⟩
  | ok g0 k0 l0 =>
    rw [hg] at RW
    go_wp2_with (first | (go_at_call 152; refine (RW _).mono ?_; rintro e w6 ⟨v5, rfl, V5, ev5, P5, G5⟩; obtain ⟨op6, x6, y6, a6, n6, cap6, rfl⟩ := V5.form; have F6 := rowIs_keep ((A1 _).1.fkeep G5 w.heap.size) (Nat.le_refl _) (made_form w (.int .i64 0) (.int .i64 0) (.int .i64 0) (.slice none 0 0)); obtain ⟨z0, z1, z2, z3⟩ := form_cells F6; have y0 := World.rowIs.frozen F6 0; have y1 := World.rowIs.frozen F6 1; have y2 := World.rowIs.frozen F6 2; have y3 := World.rowIs.frozen F6 3; have hlt := World.rowIs.lt F6))
    have N := fin_box P5 F6 (V5.mono (by simp)) ((A1 _).2.trans G5) (Kept.refl _ _)
    unfold put4 at N
    clear z0 z1 z2 z3 y0 y1 y2 y3
    generalize ((((w6).setCell ⟨w.heap.size, 0, none⟩ (.int .i64 op6)).setCell ⟨w.heap.size, 1, none⟩ (.int .i64 x6)).setCell ⟨w.heap.size, 2, none⟩ (.int .i64 y6)).setCell ⟨w.heap.size, 3, none⟩ (.slice a6 n6 cap6) = w8 at N ⊢
    obtain ⟨z0, z1, z2, z3, V8, P8, G8⟩ := N
    refine ⟨rfl, .agg #[.int .i64 op6, .int .i64 x6, .int .i64 y6, .slice a6 n6 cap6], by simp [results, Tryz.results111, go_sem, z0, z1, z2, z3], ?_⟩
    exact ⟨_, rfl, V8, ev5, P8, G8⟩

set_option maxRecDepth 100000 in
set_option maxHeartbeats 1000000 in
theorem and_at (f : Nat) (H : ∀ g, g ≤ f → At 194 (2 + 1) g) : At 153 2 (f + 1) := by
  intro w base r p ev nb fb s i d l h hf hd
  have A1 := fun (o : Obj) => h.kept0 (Kept.alloc (Kept.refl _ w) o)
  have RW := fun o => row_and f H (w.alloc o) base r p ev nb fb s i d l (A1 o).1 (by omega) hd
  go_enter Tryz.func153, Tryz.ntmps153
  cases hg : gp s (f + 1) 2 d i l with
  | bad e0 q0 l0 =>
    rw [hg] at RW
    go_wp2_with (first | (go_at_call 152; refine (RW _).mono ?_; rintro e w5 ⟨rfl, ev5, k5, d5, P5, G5⟩))
    exact ⟨rfl, rfl, ev5, k5, d5, P5, (A1 _).2.trans G5⟩
  | ok g0 k0 l0 =>
    rw [hg] at RW
    go_wp2_with (first | (go_at_call 152; refine (RW _).mono ?_; rintro e w6 ⟨v5, rfl, V5, ev5, P5, G5⟩; obtain ⟨op6, x6, y6, a6, n6, cap6, rfl⟩ := V5.form; have F6 := rowIs_keep ((A1 _).1.fkeep G5 w.heap.size) (Nat.le_refl _) (made_form w (.int .i64 0) (.int .i64 0) (.int .i64 0) (.slice none 0 0)); obtain ⟨z0, z1, z2, z3⟩ := form_cells F6; have y0 := World.rowIs.frozen F6 0; have y1 := World.rowIs.frozen F6 1; have y2 := World.rowIs.frozen F6 2; have y3 := World.rowIs.frozen F6 3; have hlt := World.rowIs.lt F6))
    have N := fin_box P5 F6 (V5.mono (by simp)) ((A1 _).2.trans G5) (Kept.refl _ _)
    unfold put4 at N
    clear z0 z1 z2 z3 y0 y1 y2 y3
    generalize ((((w6).setCell ⟨w.heap.size, 0, none⟩ (.int .i64 op6)).setCell ⟨w.heap.size, 1, none⟩ (.int .i64 x6)).setCell ⟨w.heap.size, 2, none⟩ (.int .i64 y6)).setCell ⟨w.heap.size, 3, none⟩ (.slice a6 n6 cap6) = w8 at N ⊢
    obtain ⟨z0, z1, z2, z3, V8, P8, G8⟩ := N
    refine ⟨rfl, .agg #[.int .i64 op6, .int .i64 x6, .int .i64 y6, .slice a6 n6 cap6], by simp [results, Tryz.results153, go_sem, z0, z1, z2, z3], ?_⟩
    exact ⟨_, rfl, V8, ev5, P8, G8⟩

set_option maxRecDepth 100000 in
set_option maxHeartbeats 2000000 in
theorem form_at (f : Nat) (H1 : At 111 1 f) (H0 : At 68 0 f) : At 68 0 (f + 1) := by
  intro w base r p ev nb fb s i d l h hf hd
  have hle := h.lp.le
  have hsm := h.lp.small
  have A1 := fun (o : Obj) => h.kept0 (Kept.alloc (Kept.refl _ w) o)
  have C1 := fun o => H1 (w.alloc o) base r p ev nb fb s i d l (A1 o).1 (by omega) hd
  rw [gp, if_pos rfl]
  go_enter Tryz.func68, Tryz.ntmps68
  cases hg : gp s f 1 d i l with
  | bad e0 q0 l0 =>
    rw [hg] at C1
    go_wp2_with (first | (go_at_call 111; refine (C1 _).mono ?_; rintro e w5 ⟨rfl, ev5, k5, d5, P5, G5⟩))
    exact ⟨rfl, rfl, ev5, k5, d5, P5, (A1 _).2.trans G5⟩
  | ok g0 k0 l0 =>
    rw [hg] at C1
    simp only [Res.bind]
    obtain ⟨hk0, hk1⟩ := (gp_ok s f).1 1 d i l g0 k0 l0 hle hg
    by_cases h45 : byt s k0 = 45
    · rw [if_pos h45]
      have hk2 := byt_in h45 (by omega)
      cases hs : stands s (k0 + 1) 62 with
      | false =>
        rw [if_neg (by simp)]
        go_wp2_with (first | (go_at_call 111; refine (C1 _).mono ?_; rintro e w5 ⟨v5, rfl, V5, ev5, P5, G5⟩; obtain ⟨op5, x5, y5, a5, n5, cap5, rfl⟩ := V5.form; have hsz : w.heap.size + 1 ≤ w5.heap.size := (by have := G5.kept.size; simp at this; omega); have Q5 := P5.kept0 (Kept.alloc (Kept.refl _ w5) (.cells #[.int .i64 op5, .int .i64 x5, .int .i64 y5, .slice a5 n5 cap5] 36)); have NX := next_at _ base r p ev5 nb fb s k0 d l0 Q5.1; rw [h45] at NX) | (go_at_call 110; refine NX.mono ?_; rintro e w6 ⟨rfl, P6, G6⟩; have c62 := P6.lp.c2; have f62 := P6.lp.row.frozen 2; have P6' := P6.step (k := k0 + 1) (by omega); rw [show ((k0 + 1 : Nat) : Int) = (k0 : Int) + 1 from by omega] at P6'; have MU := must_bad _ base r p ev5 nb fb s (k0 + 1) d l0 P6'.1 62 (by omega) hs) | (go_at_call 112; refine MU.mono ?_; rintro e w7 ⟨rfl, P7, G7⟩))
        exact ⟨rfl, by simp [grefusalV], ev5, _, d, P7, (((((A1 _).2.trans G5).trans Q5.2).trans G6).trans P6'.2).trans G7⟩
      | true =>
        rw [if_pos rfl]
        have hk3 := (of_decide_eq_true hs).1
        have hbl := bl_le (s := s) (i := k0 + 1 + 1) (by omega)
        have hbg := bl_ge s (k0 + 1 + 1)
        cases hp : gp s f 0 d (bl s (k0 + 1 + 1)) l0 with
        | bad e0 q0 l1 =>
          go_wp2_with (first | (go_at_call 111; refine (C1 _).mono ?_; rintro e w5 ⟨v5, rfl, V5, ev5, P5, G5⟩; obtain ⟨op5, x5, y5, a5, n5, cap5, rfl⟩ := V5.form; have hsz : w.heap.size + 1 ≤ w5.heap.size := (by have := G5.kept.size; simp at this; omega); have Q5 := P5.kept0 (Kept.alloc (Kept.refl _ w5) (.cells #[.int .i64 op5, .int .i64 x5, .int .i64 y5, .slice a5 n5 cap5] 36)); have NX := next_at _ base r p ev5 nb fb s k0 d l0 Q5.1; rw [h45] at NX) | (go_at_call 110; refine NX.mono ?_; rintro e w6 ⟨rfl, P6, G6⟩; have c62 := P6.lp.c2; have f62 := P6.lp.row.frozen 2; have P6' := P6.step (k := k0 + 1) (by omega); rw [show ((k0 + 1 : Nat) : Int) = (k0 : Int) + 1 from by omega] at P6'; have MU := must_at _ base r p ev5 nb fb s (k0 + 1) d l0 P6'.1 62 hs) | (go_at_call 112; refine MU.mono ?_; rintro e w7 ⟨rfl, P7, G7⟩))
          have KB : FKeep 0 (w5.alloc (.cells #[.int .i64 op5, .int .i64 x5, .int .i64 y5, .slice a5 n5 cap5] 36)) w7 := ((Q5.1.fkeep G6 0).trans (P6.fkeep P6'.2 0)).trans (P6'.1.fkeep G7 0)
          have KA : FKeep 0 _ w7 := (((A1 _).1.fkeep G5 0).trans (P5.fkeep Q5.2 0)).trans KB
          have B7 := rowIs_keep KB (Nat.zero_le _) (made_form w5 (.int .i64 op5) (.int .i64 x5) (.int .i64 y5) (.slice a5 n5 cap5))
          have F7 := rowIs_keep KA (Nat.zero_le _) (made_form w (.int .i64 0) (.int .i64 0) (.int .i64 0) (.slice none 0 0))
          have V7 : FVal (w.heap.size + 1) w7 _ _ := (V5.mono (by simp)).keep ((P5.fkeep Q5.2 _).trans (KB.mono (Nat.zero_le _)))
          have G7' := (((((A1 _).2.trans G5).trans Q5.2).trans G6).trans P6'.2).trans G7
          have C7 := fun m => H0 (w7.drewN m) base r p ev5 nb fb s (bl s (k0 + 1 + 1)) d l0 (P7.drewN m) (by omega) hd
          obtain ⟨t0, t1, t2, t3⟩ := form_cells B7
          obtain ⟨z0, z1, z2, z3⟩ := form_cells F7
          have y0 := World.rowIs.frozen F7 0
          have y1 := World.rowIs.frozen F7 1
          have y2 := World.rowIs.frozen F7 2
          have y3 := World.rowIs.frozen F7 3
          have HH : Hid (_ ∧ _ ∧ _ ∧ _ ∧ _) := ⟨B7, F7, V7, G7', P7⟩
          have hz7 : w.heap.size + 1 ≤ w7.heap.size := by have := World.rowIs.lt F7; omega
          clear KB KA B7 F7 V7 G7' MU NX c62 f62 P6' P6 G6 Q5 P5 G5 V5 C1 A1 h H0 H1 G7 P7
          generalize w5.heap.size = bf at *
          rw [hp] at C7
          have hP4 : ∀ m, Calls Tryz.prog 68 #[.pointer (some ⟨r, 0, none⟩)] (w7.drewN m) fun e w' => e = .panicked [{ v := grefusalV e0 q0, recovered := false }] ∧ FoPost base r p nb fb s d w ev (.bad e0 q0 l1) e w' := fun m => (C7 m).mono (by
            rintro e w' ⟨h1, ev8, k8, d8, P8, G8⟩
            exact ⟨h1, h1, ev8, k8, d8, P8, (HH.out.2.2.2.1.trans ((Grew.refl _ _ _ _ _ _).drewN m)).trans G8⟩)
          clear C7
          go_region_with (go_at_call 68; refine (hP4 1).mono ?_; rintro e w8 ⟨rfl, hP⟩; refine way_out w8 (And.intro rfl hP) ?_)
          all_goals trivial
        | ok b k2 l2 =>
          go_wp2_with (first | (go_at_call 111; refine (C1 _).mono ?_; rintro e w5 ⟨v5, rfl, V5, ev5, P5, G5⟩; obtain ⟨op5, x5, y5, a5, n5, cap5, rfl⟩ := V5.form; have hsz : w.heap.size + 1 ≤ w5.heap.size := (by have := G5.kept.size; simp at this; omega); have Q5 := P5.kept0 (Kept.alloc (Kept.refl _ w5) (.cells #[.int .i64 op5, .int .i64 x5, .int .i64 y5, .slice a5 n5 cap5] 36)); have NX := next_at _ base r p ev5 nb fb s k0 d l0 Q5.1; rw [h45] at NX) | (go_at_call 110; refine NX.mono ?_; rintro e w6 ⟨rfl, P6, G6⟩; have c62 := P6.lp.c2; have f62 := P6.lp.row.frozen 2; have P6' := P6.step (k := k0 + 1) (by omega); rw [show ((k0 + 1 : Nat) : Int) = (k0 : Int) + 1 from by omega] at P6'; have MU := must_at _ base r p ev5 nb fb s (k0 + 1) d l0 P6'.1 62 hs) | (go_at_call 112; refine MU.mono ?_; rintro e w7 ⟨rfl, P7, G7⟩))
          have KB : FKeep 0 (w5.alloc (.cells #[.int .i64 op5, .int .i64 x5, .int .i64 y5, .slice a5 n5 cap5] 36)) w7 := ((Q5.1.fkeep G6 0).trans (P6.fkeep P6'.2 0)).trans (P6'.1.fkeep G7 0)
          have KA : FKeep 0 _ w7 := (((A1 _).1.fkeep G5 0).trans (P5.fkeep Q5.2 0)).trans KB
          have B7 := rowIs_keep KB (Nat.zero_le _) (made_form w5 (.int .i64 op5) (.int .i64 x5) (.int .i64 y5) (.slice a5 n5 cap5))
          have F7 := rowIs_keep KA (Nat.zero_le _) (made_form w (.int .i64 0) (.int .i64 0) (.int .i64 0) (.slice none 0 0))
          have V7 : FVal (w.heap.size + 1) w7 _ _ := (V5.mono (by simp)).keep ((P5.fkeep Q5.2 _).trans (KB.mono (Nat.zero_le _)))
          have G7' := (((((A1 _).2.trans G5).trans Q5.2).trans G6).trans P6'.2).trans G7
          have C7 := fun m => H0 (w7.drewN m) base r p ev5 nb fb s (bl s (k0 + 1 + 1)) d l0 (P7.drewN m) (by omega) hd
          obtain ⟨t0, t1, t2, t3⟩ := form_cells B7
          obtain ⟨z0, z1, z2, z3⟩ := form_cells F7
          have y0 := World.rowIs.frozen F7 0
          have y1 := World.rowIs.frozen F7 1
          have y2 := World.rowIs.frozen F7 2
          have y3 := World.rowIs.frozen F7 3
          have HH : Hid (_ ∧ _ ∧ _ ∧ _ ∧ _) := ⟨B7, F7, V7, G7', P7⟩
          have hz7 : w.heap.size + 1 ≤ w7.heap.size := by have := World.rowIs.lt F7; omega
          clear KB KA B7 F7 V7 G7' MU NX c62 f62 P6' P6 G6 Q5 P5 G5 V5 C1 A1 h H0 H1 G7 P7
          generalize w5.heap.size = bf at *
          rw [hp] at C7
          go_region_with (go_at_call 68; refine (C7 1).mono ?_; rintro e w8 ⟨v8, rfl, V8, ev8, P8, G8⟩; obtain ⟨op8, x8, y8, a8, n8, cap8, rfl⟩ := V8.form; have K8 := (HH.out.2.2.2.2.drewN 1).fkeep G8 0; have B8 := rowIs_keep K8 (Nat.zero_le _) HH.out.1; obtain ⟨s0, s1, s2, s3⟩ := form_cells B8; have F8 := rowIs_keep K8 (Nat.zero_le _) HH.out.2.1; obtain ⟨u0, u1, u2, u3⟩ := form_cells F8; have x0 := World.rowIs.frozen F8 0; have x1 := World.rowIs.frozen F8 1; have x2 := World.rowIs.frozen F8 2; have x3 := World.rowIs.frozen F8 3; have hlt := World.rowIs.lt F8)
          all_goals
            clear t0 t1 t2 t3 z0 z1 z2 z3 y0 y1 y2 y3 C7 s0 s1 s2 s3 u0 u1 u2 u3 x0 x1 x2 x3
            go_wp2_with fail
            obtain ⟨B7, F7, V7, G7', P7⟩ := HH.out
            have K8' : FKeep 0 w7 w8 := fun k c fz hk hh => K8 k c fz hk hh
            have VA := V7.keep (K8'.mono (Nat.zero_le (w.heap.size + 1)))
            have VB : FVal (w.heap.size + 1) w8 _ _ := V8.mono hz7
            have hz := put_size w8 w.heap.size (.int .i64 4) (.int .i64 0) (.int .i64 0) (.slice (some ⟨w8.heap.size, 0, none⟩) 2 2)
            have KP : FKeep (w.heap.size + 1) w8 _ := put_keep (w := w8) (Nat.lt_succ_self w.heap.size) (.int .i64 4) (.int .i64 0) (.int .i64 0) (.slice (some ⟨w8.heap.size, 0, none⟩) 2 2)
            have V9 := FVal.pair (VA.keep KP) (VB.keep KP) 4 (show w.heap.size + 1 ≤ _ by rw [hz]; omega)
            rw [hz] at V9
            have P9 := P8.put4 F8 (.int .i64 4) (.int .i64 0) (.int .i64 0) (.slice (some ⟨w8.heap.size, 0, none⟩) 2 2)
            have F9 := put_form F8 (.int .i64 4) (.int .i64 0) (.int .i64 0) (.slice (some ⟨w8.heap.size, 0, none⟩) 2 2)
            have G9 := (G7'.trans (((Grew.refl _ _ _ _ _ _).drewN 1).trans G8)).put4 (Nat.le_refl w.heap.size) (.int .i64 4) (.int .i64 0) (.int .i64 0) (.slice (some ⟨w8.heap.size, 0, none⟩) 2 2)
            unfold put4 at P9 F9 G9 V9
            clear KP hz HH
            generalize ((((w8).setCell ⟨w.heap.size, 0, none⟩ (.int .i64 4)).setCell ⟨w.heap.size, 1, none⟩ (.int .i64 0)).setCell ⟨w.heap.size, 2, none⟩ (.int .i64 0)).setCell ⟨w.heap.size, 3, none⟩ (.slice (some ⟨w8.heap.size, 0, none⟩) 2 2) = w9 at P9 F9 G9 V9 ⊢
            have P10 := P9.kept0 (Kept.alloc (Kept.refl _ w9) (.cells #[.int .i64 op5, .int .i64 x5, .int .i64 y5, .slice a5 n5 cap5, .int .i64 op8, .int .i64 x8, .int .i64 y8, .slice a8 n8 cap8] 36))
            have F10 := rowIs_keep (FKeep.alloc 0 w9 (.cells #[.int .i64 op5, .int .i64 x5, .int .i64 y5, .slice a5 n5 cap5, .int .i64 op8, .int .i64 x8, .int .i64 y8, .slice a8 n8 cap8] 36)) (Nat.zero_le _) F9
            generalize w9.alloc (.cells #[.int .i64 op5, .int .i64 x5, .int .i64 y5, .slice a5 n5 cap5, .int .i64 op8, .int .i64 x8, .int .i64 y8, .slice a8 n8 cap8] 36) = w10 at P10 F10 V9 ⊢
            obtain ⟨z0, z1, z2, z3⟩ := form_cells F10
            refine ⟨rfl, .agg #[.int .i64 4, .int .i64 0, .int .i64 0, .slice (some ⟨w8.heap.size, 0, none⟩) 2 2], by simp [results, Tryz.results68, go_sem, z0, z1, z2, z3], ?_⟩
            exact ⟨_, rfl, FValA.mono (fun k hk => Nat.le_of_succ_le hk) V9, ev8, P10.1, G9.trans P10.2⟩
    · rw [if_neg h45]
      have d45 : ((byt s k0 : Int) != 45) = true := by simp; omega
      go_wp2_with (first | (go_at_call 111; refine (C1 _).mono ?_; rintro e w5 ⟨v5, rfl, V5, ev5, P5, G5⟩; obtain ⟨op5, x5, y5, a5, n5, cap5, rfl⟩ := V5.form; have hsz : w.heap.size + 1 ≤ w5.heap.size := (by have := G5.kept.size; simp at this; omega); have Q5 := P5.kept0 (Kept.alloc (Kept.refl _ w5) (.cells #[.int .i64 op5, .int .i64 x5, .int .i64 y5, .slice a5 n5 cap5] 36)); have NX := next_at _ base r p ev5 nb fb s k0 d l0 Q5.1) | (go_at_call 110; refine NX.mono ?_; rintro e w6 ⟨rfl, P6, G6⟩; have B6 := rowIs_keep (Q5.1.fkeep G6 0) (Nat.zero_le _) (made_form w5 (.int .i64 op5) (.int .i64 x5) (.int .i64 y5) (.slice a5 n5 cap5)); have F6 := rowIs_keep ((((A1 _).1.fkeep G5 0).trans (P5.fkeep Q5.2 0)).trans (Q5.1.fkeep G6 0)) (Nat.zero_le _) (made_form w (.int .i64 0) (.int .i64 0) (.int .i64 0) (.slice none 0 0)); obtain ⟨t0, t1, t2, t3⟩ := form_cells B6; obtain ⟨z0, z1, z2, z3⟩ := form_cells F6; have y0 := World.rowIs.frozen F6 0; have y1 := World.rowIs.frozen F6 1; have y2 := World.rowIs.frozen F6 2; have y3 := World.rowIs.frozen F6 3))
      have N := fin_box P6 F6 ((V5.mono (by simp)).keep ((P5.fkeep Q5.2 _).trans (Q5.1.fkeep G6 _))) ((((A1 _).2.trans G5).trans Q5.2).trans G6) (Kept.refl _ _)
      unfold put4 at N
      clear z0 z1 z2 z3 y0 y1 y2 y3 t0 t1 t2 t3
      generalize ((((w6).setCell ⟨w.heap.size, 0, none⟩ (.int .i64 op5)).setCell ⟨w.heap.size, 1, none⟩ (.int .i64 x5)).setCell ⟨w.heap.size, 2, none⟩ (.int .i64 y5)).setCell ⟨w.heap.size, 3, none⟩ (.slice a5 n5 cap5) = w8 at N ⊢
      obtain ⟨z0, z1, z2, z3, V8, P8, G8⟩ := N
      refine ⟨rfl, .agg #[.int .i64 op5, .int .i64 x5, .int .i64 y5, .slice a5 n5 cap5], by simp [results, Tryz.results68, go_sem, z0, z1, z2, z3], ?_⟩
      exact ⟨_, rfl, V8, ev5, P8, G8⟩

/-- The recursion's end. -/
theorem at_alls : ∀ f : Nat, At 68 0 f ∧ At 111 1 f ∧ At 153 2 f ∧ At 194 3 f
  | 0 => ⟨fun _ _ _ _ _ _ _ _ _ _ _ _ hf => absurd hf (by omega), fun _ _ _ _ _ _ _ _ _ _ _ _ hf => absurd hf (by omega), fun _ _ _ _ _ _ _ _ _ _ _ _ hf => absurd hf (by omega), fun _ _ _ _ _ _ _ _ _ _ _ _ hf => absurd hf (by omega)⟩
  | f + 1 => ⟨form_at f (at_alls f).2.1 (at_alls f).1, or_at f (fun g _ => (at_alls g).2.2.1), and_at f (fun g _ => (at_alls g).2.2.2), not_at f (at_alls f).2.2.2 (at_alls f).1⟩

end Go.Proofs.YtlehlgipbhfioaaGreat
