/- Package logic: not. -/
import Derived.Test.YtlehlgipbhfioaaGreatLoH
namespace Go.Proofs.YtlehlgipbhfioaaGreat
open Go.RowKit Go.Maps

set_option maxRecDepth 100000 in
set_option maxHeartbeats 2000000 in
theorem not_at (f : Nat) (H3 : At 194 3 f) (H0 : At 68 0 f) : At 194 3 (f + 1) := by
  intro w base r p ev nb fb s i d l h hf hd
  have hle := h.lp.le
  have hrw := h.lp.row.lt
  have A1 := fun (o : Obj) => h.kept0 (Kept.alloc (Kept.refl _ w) o)
  have NX := fun o => next_at (w.alloc o) base r p ev nb fb s i d l (A1 o).1
  have hbg := bl_ge s (i + 1)
  rw [gp, if_neg (by omega), if_pos rfl]
  go_enter Tryz.func194, Tryz.ntmps194
  by_cases h33 : byt s i = 33
  · rw [if_pos h33]
    rw [h33] at NX
    have hi2 := byt_in h33 (by omega)
    have WI := fun W ev' (P : PB W base r p ev' nb fb s i d l) => within_not f H3 W base r p ev' nb fb s i d l P 33 (by omega) h33 hd (by omega)
    by_cases h20 : 20 ≤ d
    · rw [if_pos h20]
      simp only [h20, if_true] at WI
      go_wp2_with (first | (go_at_call 110; refine (NX _).mono ?_; rintro e w3 ⟨rfl, P3, G3⟩; have W3 := WI w3 ev P3) | (go_at_call 232; refine W3.mono ?_; rintro e w5 ⟨rfl, ev5, k5, d5, P5, G5⟩))
      exact ⟨rfl, rfl, ev5, k5, d5, P5, ((A1 _).2.trans G3).trans G5⟩
    · rw [if_neg h20]
      simp only [h20, if_false] at WI
      cases hg : gp s f 3 (d + 1) (bl s (i + 1)) l with
      | bad e0 q0 l0 =>
        rw [hg] at WI
        go_wp2_with (first | (go_at_call 110; refine (NX _).mono ?_; rintro e w3 ⟨rfl, P3, G3⟩; have W3 := WI w3 ev P3) | (go_at_call 232; refine W3.mono ?_; rintro e w5 ⟨rfl, ev5, k5, d5, P5, G5⟩))
        exact ⟨rfl, rfl, ev5, k5, d5, P5, ((A1 _).2.trans G3).trans G5⟩
      | ok g0 k0 l0 =>
        rw [hg] at WI
        go_wp2_with (first | (go_at_call 110; refine (NX _).mono ?_; rintro e w3 ⟨rfl, P3, G3⟩; have W3 := WI w3 ev P3) | (go_at_call 232; refine W3.mono ?_; rintro e w5 ⟨v5, rfl, V5, ev5, P5, G5⟩; have hlt0 : w.heap.size + 1 ≤ w3.heap.size := (by have := G3.kept.size; simp at this; omega); have NG := negation_in w5 (w.heap.size + 1) v5 _ (V5.mono hlt0) (by have := G5.kept.size; omega); obtain ⟨op5, x5, y5, a5, n5, cap5, rfl⟩ := V5.form) | (go_at_call 231; refine NG.mono ?_; rintro e w6 ⟨u, rfl, V6, K6⟩; obtain ⟨op6, x6, y6, a6, n6, cap6, rfl⟩ := V6.form; have P6 := P5.kept0 K6; have F6 := rowIs_keep ((((A1 _).1.fkeep G3 w.heap.size).trans (P3.fkeep G5 _)).trans (P5.fkeep P6.2 _)) (Nat.le_refl _) (made_form w (.int .i64 0) (.int .i64 0) (.int .i64 0) (.slice none 0 0)); obtain ⟨z0, z1, z2, z3⟩ := form_cells F6; have y0 := World.rowIs.frozen F6 0; have y1 := World.rowIs.frozen F6 1; have y2 := World.rowIs.frozen F6 2; have y3 := World.rowIs.frozen F6 3; have hlt := World.rowIs.lt F6))
        have N := fin_box P6.1 F6 V6 ((((A1 _).2.trans G3).trans G5).trans P6.2) (Kept.refl _ _)
        unfold put4 at N
        clear z0 z1 z2 z3 y0 y1 y2 y3
        generalize ((((w6).setCell ⟨w.heap.size, 0, none⟩ (.int .i64 op6)).setCell ⟨w.heap.size, 1, none⟩ (.int .i64 x6)).setCell ⟨w.heap.size, 2, none⟩ (.int .i64 y6)).setCell ⟨w.heap.size, 3, none⟩ (.slice a6 n6 cap6) = w8 at N ⊢
        obtain ⟨z0, z1, z2, z3, V8, P8, G8⟩ := N
        refine ⟨rfl, .agg #[.int .i64 op6, .int .i64 x6, .int .i64 y6, .slice a6 n6 cap6], by simp [results, Tryz.results194, go_sem, z0, z1, z2, z3], ?_⟩
        exact ⟨_, rfl, V8, ev5, P8, G8⟩
  · rw [if_neg h33]
    have d33 : ((byt s i : Int) == 33) = false := by simp; omega
    by_cases h40 : byt s i = 40
    · rw [if_pos h40]
      rw [h40] at NX
      clear d33
      have hi2 := byt_in h40 (by omega)
      have WI := fun W ev' (P : PB W base r p ev' nb fb s i d l) => within_form f H0 W base r p ev' nb fb s i d l P 40 (by omega) h40 hd (by omega)
      by_cases h20 : 20 ≤ d
      · rw [if_pos h20]
        simp only [h20, if_true] at WI
        go_wp2_with (first | (go_at_call 110; refine (NX _).mono ?_; rintro e w3 ⟨rfl, P3, G3⟩; have W3 := WI w3 ev P3) | (go_at_call 232; refine W3.mono ?_; rintro e w5 ⟨rfl, ev5, k5, d5, P5, G5⟩))
        exact ⟨rfl, rfl, ev5, k5, d5, P5, ((A1 _).2.trans G3).trans G5⟩
      · rw [if_neg h20]
        simp only [h20, if_false] at WI
        cases hg : gp s f 0 (d + 1) (bl s (i + 1)) l with
        | bad e0 q0 l0 =>
          rw [hg] at WI
          go_wp2_with (first | (go_at_call 110; refine (NX _).mono ?_; rintro e w3 ⟨rfl, P3, G3⟩; have W3 := WI w3 ev P3) | (go_at_call 232; refine W3.mono ?_; rintro e w5 ⟨rfl, ev5, k5, d5, P5, G5⟩))
          exact ⟨rfl, rfl, ev5, k5, d5, P5, ((A1 _).2.trans G3).trans G5⟩
        | ok g0 k0 l0 =>
          rw [hg] at WI
          simp only [Res.bind]
          have hk0 := ((gp_ok s f).1 0 (d + 1) (bl s (i + 1)) l g0 k0 l0 (bl_le (by omega)) hg).2
          cases hs : stands s k0 41 with
          | false =>
            rw [if_neg (by simp)]
            go_wp2_with (first | (go_at_call 110; refine (NX _).mono ?_; rintro e w3 ⟨rfl, P3, G3⟩; have W3 := WI w3 ev P3) | (go_at_call 232; refine W3.mono ?_; rintro e w5 ⟨v5, rfl, V5, ev5, P5, G5⟩; obtain ⟨op5, x5, y5, a5, n5, cap5, rfl⟩ := V5.form; have Q5 := P5.kept0 (Kept.alloc (Kept.refl _ w5) (.cells #[.int .i64 op5, .int .i64 x5, .int .i64 y5, .slice a5 n5 cap5] 36)); have MU := must_bad _ base r p ev5 nb fb s k0 d l0 Q5.1 41 (by omega) hs) | (go_at_call 112; refine MU.mono ?_; rintro e w6 ⟨rfl, P6, G6⟩))
            exact ⟨rfl, rfl, ev5, k0, d, P6, ((((A1 _).2.trans G3).trans G5).trans Q5.2).trans G6⟩
          | true =>
            rw [if_pos rfl]
            go_wp2_with (first | (go_at_call 110; refine (NX _).mono ?_; rintro e w3 ⟨rfl, P3, G3⟩; have W3 := WI w3 ev P3) | (go_at_call 232; refine W3.mono ?_; rintro e w5 ⟨v5, rfl, V5, ev5, P5, G5⟩; have hlt0 : w.heap.size + 1 ≤ w3.heap.size := (by have := G3.kept.size; simp at this; omega); obtain ⟨op5, x5, y5, a5, n5, cap5, rfl⟩ := V5.form; have Q5 := P5.kept0 (Kept.alloc (Kept.refl _ w5) (.cells #[.int .i64 op5, .int .i64 x5, .int .i64 y5, .slice a5 n5 cap5] 36)); have MU := must_at _ base r p ev5 nb fb s k0 d l0 Q5.1 41 hs) | (go_at_call 112; refine MU.mono ?_; rintro e w6 ⟨rfl, P6, G6⟩; have F6 := rowIs_keep (((((A1 _).1.fkeep G3 w.heap.size).trans (P3.fkeep G5 _)).trans (P5.fkeep Q5.2 _)).trans (Q5.1.fkeep G6 _)) (Nat.le_refl _) (made_form w (.int .i64 0) (.int .i64 0) (.int .i64 0) (.slice none 0 0)); have E6 := rowIs_keep (Q5.1.fkeep G6 0) (Nat.zero_le _) (made_form w5 (.int .i64 op5) (.int .i64 x5) (.int .i64 y5) (.slice a5 n5 cap5)); obtain ⟨z0, z1, z2, z3⟩ := form_cells F6; obtain ⟨t0, t1, t2, t3⟩ := form_cells E6; have y0 := World.rowIs.frozen F6 0; have y1 := World.rowIs.frozen F6 1; have y2 := World.rowIs.frozen F6 2; have y3 := World.rowIs.frozen F6 3; have hlt := World.rowIs.lt F6))
            have V6 := ((V5.mono hlt0).keep (P5.fkeep Q5.2 _)).keep (Q5.1.fkeep G6 _)
            have N := fin_box P6 F6 V6 (((((A1 _).2.trans G3).trans G5).trans Q5.2).trans G6) (Kept.refl _ _)
            unfold put4 at N
            clear z0 z1 z2 z3 y0 y1 y2 y3 t0 t1 t2 t3
            generalize ((((w6).setCell ⟨w.heap.size, 0, none⟩ (.int .i64 op5)).setCell ⟨w.heap.size, 1, none⟩ (.int .i64 x5)).setCell ⟨w.heap.size, 2, none⟩ (.int .i64 y5)).setCell ⟨w.heap.size, 3, none⟩ (.slice a5 n5 cap5) = w8 at N ⊢
            obtain ⟨z0, z1, z2, z3, V8, P8, G8⟩ := N
            refine ⟨rfl, .agg #[.int .i64 op5, .int .i64 x5, .int .i64 y5, .slice a5 n5 cap5], by simp [results, Tryz.results194, go_sem, z0, z1, z2, z3], ?_⟩
            exact ⟨_, rfl, V8, ev5, P8, G8⟩
    · rw [if_neg h40]
      have d40 : ((byt s i : Int) == 40) = false := by simp; omega
      have EQ := fun W ev' (P : PB W base r p ev' nb fb s i d l) => equality_in W base r p ev' nb fb s i d l P
      cases hg : gEqu s i l with
      | bad e0 q0 l0 =>
        rw [hg] at EQ
        go_wp2_with (first | (go_at_call 110; refine (NX _).mono ?_; rintro e w3 ⟨rfl, P3, G3⟩; have W3 := EQ w3 ev P3) | (go_at_call 233; refine W3.mono ?_; rintro e w5 ⟨rfl, ev5, k5, d5, P5, G5⟩))
        exact ⟨rfl, rfl, ev5, k5, d5, P5, ((A1 _).2.trans G3).trans G5⟩
      | ok g0 k0 l0 =>
        rw [hg] at EQ
        go_wp2_with (first | (go_at_call 110; refine (NX _).mono ?_; rintro e w3 ⟨rfl, P3, G3⟩; have W3 := EQ w3 ev P3) | (go_at_call 233; refine W3.mono ?_; rintro e w6 ⟨v5, rfl, V5, ev5, P5, G5⟩; have hlt0 : w.heap.size + 1 ≤ w3.heap.size := (by have := G3.kept.size; simp at this; omega); obtain ⟨op6, x6, y6, a6, n6, cap6, rfl⟩ := V5.form; have F6 := rowIs_keep (((A1 _).1.fkeep G3 w.heap.size).trans (P3.fkeep G5 _)) (Nat.le_refl _) (made_form w (.int .i64 0) (.int .i64 0) (.int .i64 0) (.slice none 0 0)); obtain ⟨z0, z1, z2, z3⟩ := form_cells F6; have y0 := World.rowIs.frozen F6 0; have y1 := World.rowIs.frozen F6 1; have y2 := World.rowIs.frozen F6 2; have y3 := World.rowIs.frozen F6 3; have hlt := World.rowIs.lt F6))
        have N := fin_box P5 F6 (V5.mono hlt0) (((A1 _).2.trans G3).trans G5) (Kept.refl _ _)
        unfold put4 at N
        clear z0 z1 z2 z3 y0 y1 y2 y3
        generalize ((((w6).setCell ⟨w.heap.size, 0, none⟩ (.int .i64 op6)).setCell ⟨w.heap.size, 1, none⟩ (.int .i64 x6)).setCell ⟨w.heap.size, 2, none⟩ (.int .i64 y6)).setCell ⟨w.heap.size, 3, none⟩ (.slice a6 n6 cap6) = w8 at N ⊢
        obtain ⟨z0, z1, z2, z3, V8, P8, G8⟩ := N
        refine ⟨rfl, .agg #[.int .i64 op6, .int .i64 x6, .int .i64 y6, .slice a6 n6 cap6], by simp [results, Tryz.results194, go_sem, z0, z1, z2, z3], ?_⟩
        exact ⟨_, rfl, V8, ev5, P8, G8⟩

end Go.Proofs.YtlehlgipbhfioaaGreat
