/- math/bits.Len of a small number but nought is not nought. Package logic: or, and, form; the recursion. Package logic: whole, its deferred function; Parse. Package sat: slices.Sort of a clause whose greatest literal stands first and whose others rise: pdqsortOrdered. Package sat: slices.Sort of a clause of few literals, or of one whose greatest literal stands first and whose others rise. Package sat: Compact of a rising row; literalsOf. Package sat: check; a clause more in memory. Package decide: ordered, isBelow, rename. Package sat: Solve. -/
import Derived.Lib.BitFns
import Derived.Test.YtlehlgipbhfioaaGreatP36
import Derived.Test.YtlehlgipbhfioaaGreatLoJ
import Derived.Deep.RegionWith
import Derived.Test.YtlehlgipbhfioaaGreatP17
import Derived.Test.YtlehlgipbhfioaaGreatP32
import Derived.Test.YtlehlgipbhfioaaGreatP00
namespace Go.Proofs.YtlehlgipbhfioaaGreat
open Go.RowKit Go.Maps

theorem tab_all : (List.range 256).all (fun x => x == 0 || (if h : x < Lib.len8tab.size then decide (1 ≤ Lib.len8tab[x].toNat) && decide (Lib.len8tab[x].toNat ≤ 8) else false)) = true := by decide +kernel
theorem tab_size : Lib.len8tab.size = 256 := by decide +kernel
theorem tab_gen (s : type_of% Lib.len8tab) (hz : s.size = 256) (ha : (List.range 256).all (fun x => x == 0 || (if h : x < s.size then decide (1 ≤ s[x].toNat) && decide (s[x].toNat ≤ 8) else false)) = true) (x : Nat) (h : x < s.size) (h1 : 1 ≤ x) : 1 ≤ s[x].toNat ∧ s[x].toNat ≤ 8 := by
  have := List.all_eq_true.1 ha x (by rw [hz] at h; simpa using h)
  rw [dif_pos h] at this
  simp only [Bool.or_eq_true, Bool.and_eq_true, decide_eq_true_eq, beq_iff_eq] at this
  omega
theorem tab_pos (x : Nat) (h : x < Lib.len8tab.size) (h1 : 1 ≤ x) : 1 ≤ Lib.len8tab[x].toNat ∧ Lib.len8tab[x].toNat ≤ 8 := tab_gen Lib.len8tab tab_size tab_all x h h1

set_option maxRecDepth 100000 in
set_option maxHeartbeats 1000000 in
theorem len64_pos (w : World) (x : Nat) (h1 : 13 ≤ x) (hx : x ≤ 1000) : Calls Tryz.prog 192 #[.int .u64 (x : Int)] w fun e w' => ∃ k : Nat, e = .returned (.int .i64 (k : Int)) ∧ 1 ≤ k ∧ k ≤ 100 ∧ w = w' := by
  have d1 : decide ((x : Int) ≥ 4294967296) = false := decide_eq_false (by omega)
  have d2 : decide ((x : Int) ≥ 65536) = false := decide_eq_false (by omega)
  have TS := tab_size
  by_cases h : 256 ≤ x
  · have d3 : decide ((x : Int) ≥ 256) = true := decide_eq_true (by omega)
    go_enter Tryz.func192, Tryz.ntmps192
    go_wp2_with fail
    all_goals first
      | (exfalso; omega)
      | (have T := tab_pos (x / 256) (by omega) (by omega)
         generalize Lib.len8tab[x / 256].toNat = k at T
         go_ret
         refine ⟨8 + k, ?_, by omega, by omega, rfl⟩
         have e : wrap64 (8 + wrap64 (k : Int)) = ((8 + k : Nat) : Int) := by
           unfold wrap64
           omega
         rw [e]
         rfl)
  · have d3 : decide ((x : Int) ≥ 256) = false := decide_eq_false (by omega)
    go_enter Tryz.func192, Tryz.ntmps192
    go_wp2_with fail
    all_goals first
      | (exfalso; omega)
      | (have T := tab_pos x (by omega) (by omega)
         generalize Lib.len8tab[x].toNat = k at T
         go_ret
         refine ⟨k, ?_, by omega, by omega, rfl⟩
         have e : wrap64 (wrap64 (k : Int)) = (k : Int) := by
           unfold wrap64
           omega
         rw [e]
         rfl)

set_option maxRecDepth 100000 in
set_option maxHeartbeats 1000000 in
theorem len_pos (w : World) (x : Nat) (h0 : 13 ≤ x) (hx : x ≤ 1000) : Calls Tryz.prog 145 #[.int .u64 (x : Int)] w fun e w' => ∃ k : Nat, e = .returned (.int .i64 (k : Int)) ∧ 1 ≤ k ∧ k ≤ 100 ∧ w = w' := by
  have L := len64_pos w x h0 hx
  have h1 : IntKind.u64.wrap (x : Int) = (x : Int) := by rw [IntKind.wrap_u64]; omega
  go_enter Tryz.func145, Tryz.ntmps145
  go_wp2_with (first | (go_at_call 192; refine L.mono ?_; rintro e w3 ⟨k, rfl, hk1, hk2, rfl⟩))
  go_ret
  exact ⟨_, rfl, hk1, hk2, rfl⟩
end Go.Proofs.YtlehlgipbhfioaaGreat

namespace Go.Proofs.YtlehlgipbhfioaaGreat
open Go.RowKit Go.Maps

set_option maxRecDepth 100000 in
set_option maxHeartbeats 1000000 in
theorem or_at (f : Nat) (H : ∀ g, g ≤ f → At 153 (1 + 1) g) : At 111 1 (f + 1) := by
  intro w base r p ev nb fb s i d l h hf hd
  have A1 := fun (o : Obj) => h.kept0 (Kept.alloc (Kept.refl _ w) o)
  have RW := fun o => row_or f H (w.alloc o) base r p ev nb fb s i d l (A1 o).1 (by omega) hd
  go_enter Tryz.func111, Tryz.ntmps111
  cases hg : gp s (f + 1) 1 d i l with
  | bad e0 q0 l0 =>
    rw [hg] at RW
    go_wp2_with (first | (go_at_call 152; refine (RW _).mono ?_; rintro e w5 ⟨rfl, ev5, k5, d5, P5, G5⟩))
    exact ⟨rfl, rfl, ev5, k5, d5, P5, (A1 _).2.trans G5⟩
  | ok g0 k0 l0 =>
    rw [hg] at RW
    go_wp2_with (first | (go_at_call 152; refine (RW _).mono ?_; rintro e w6 ⟨v5, rfl, V5, ev5, P5, G5⟩; obtain ⟨op6, x6, y6, a6, n6, cap6, rfl⟩ := V5.form; have F6 := rowIs_keep ((A1 _).1.fkeep G5 w.heap.size) (Nat.le_refl _) (made_form w (.int .i64 0) (.int .i64 0) (.int .i64 0) (.slice none 0 0)); obtain ⟨z0, z1, z2, z3⟩ := form_cells F6; have y0 := World.rowIs.frozen F6 0; have y1 := World.rowIs.frozen F6 1; have y2 := World.rowIs.frozen F6 2; have y3 := World.rowIs.frozen F6 3; have hlt := World.rowIs.lt F6))
    have N := fin_box P5 F6 (V5.mono (by simp)) ((A1 _).2.trans G5) (Kept.refl _ _)
    unfold put4 at N
    clear z0 z1 z2 z3 y0 y1 y2 y3
    generalize ((((w6).setCell ⟨w.heap.size, 0, none⟩ (.int .i64 op6)).setCell ⟨w.heap.size, 1, none⟩ (.int .i64 x6)).setCell ⟨w.heap.size, 2, none⟩ (.int .i64 y6)).setCell ⟨w.heap.size, 3, none⟩ (.slice a6 n6 cap6) = w8 at N ⊢
    obtain ⟨z0, z1, z2, z3, V8, P8, G8⟩ := N
    refine ⟨rfl, .agg #[.int .i64 op6, .int .i64 x6, .int .i64 y6, .slice a6 n6 cap6], by simp [results, Tryz.results111, go_sem, z0, z1, z2, z3], ?_⟩
    exact ⟨_, rfl, V8, ev5, P8, G8⟩

set_option maxRecDepth 100000 in
set_option maxHeartbeats 1000000 in
theorem and_at (f : Nat) (H : ∀ g, g ≤ f → At 194 (2 + 1) g) : At 153 2 (f + 1) := by
  intro w base r p ev nb fb s i d l h hf hd
  have A1 := fun (o : Obj) => h.kept0 (Kept.alloc (Kept.refl _ w) o)
  have RW := fun o => row_and f H (w.alloc o) base r p ev nb fb s i d l (A1 o).1 (by omega) hd
  go_enter Tryz.func153, Tryz.ntmps153
  cases hg : gp s (f + 1) 2 d i l with
  | bad e0 q0 l0 =>
    rw [hg] at RW
    go_wp2_with (first | (go_at_call 152; refine (RW _).mono ?_; rintro e w5 ⟨rfl, ev5, k5, d5, P5, G5⟩))
    exact ⟨rfl, rfl, ev5, k5, d5, P5, (A1 _).2.trans G5⟩
  | ok g0 k0 l0 =>
    rw [hg] at RW
    go_wp2_with (first | (go_at_call 152; refine (RW _).mono ?_; rintro e w6 ⟨v5, rfl, V5, ev5, P5, G5⟩; obtain ⟨op6, x6, y6, a6, n6, cap6, rfl⟩ := V5.form; have F6 := rowIs_keep ((A1 _).1.fkeep G5 w.heap.size) (Nat.le_refl _) (made_form w (.int .i64 0) (.int .i64 0) (.int .i64 0) (.slice none 0 0)); obtain ⟨z0, z1, z2, z3⟩ := form_cells F6; have y0 := World.rowIs.frozen F6 0; have y1 := World.rowIs.frozen F6 1; have y2 := World.rowIs.frozen F6 2; have y3 := World.rowIs.frozen F6 3; have hlt := World.rowIs.lt F6))
    have N := fin_box P5 F6 (V5.mono (by simp)) ((A1 _).2.trans G5) (Kept.refl _ _)
    unfold put4 at N
    clear z0 z1 z2 z3 y0 y1 y2 y3
    generalize ((((w6).setCell ⟨w.heap.size, 0, none⟩ (.int .i64 op6)).setCell ⟨w.heap.size, 1, none⟩ (.int .i64 x6)).setCell ⟨w.heap.size, 2, none⟩ (.int .i64 y6)).setCell ⟨w.heap.size, 3, none⟩ (.slice a6 n6 cap6) = w8 at N ⊢
    obtain ⟨z0, z1, z2, z3, V8, P8, G8⟩ := N
    refine ⟨rfl, .agg #[.int .i64 op6, .int .i64 x6, .int .i64 y6, .slice a6 n6 cap6], by simp [results, Tryz.results153, go_sem, z0, z1, z2, z3], ?_⟩
    exact ⟨_, rfl, V8, ev5, P8, G8⟩

set_option maxRecDepth 100000 in
set_option maxHeartbeats 2000000 in
theorem form_at (f : Nat) (H1 : At 111 1 f) (H0 : At 68 0 f) : At 68 0 (f + 1) := by
  intro w base r p ev nb fb s i d l h hf hd
  have hle := h.lp.le
  have hsm := h.lp.small
  have A1 := fun (o : Obj) => h.kept0 (Kept.alloc (Kept.refl _ w) o)
  have C1 := fun o => H1 (w.alloc o) base r p ev nb fb s i d l (A1 o).1 (by omega) hd
  rw [gp, if_pos rfl]
  go_enter Tryz.func68, Tryz.ntmps68
  cases hg : gp s f 1 d i l with
  | bad e0 q0 l0 =>
    rw [hg] at C1
    go_wp2_with (first | (go_at_call 111; refine (C1 _).mono ?_; rintro e w5 ⟨rfl, ev5, k5, d5, P5, G5⟩))
    exact ⟨rfl, rfl, ev5, k5, d5, P5, (A1 _).2.trans G5⟩
  | ok g0 k0 l0 =>
    rw [hg] at C1
    simp only [Res.bind]
    obtain ⟨hk0, hk1⟩ := (gp_ok s f).1 1 d i l g0 k0 l0 hle hg
    by_cases h45 : byt s k0 = 45
    · rw [if_pos h45]
      have hk2 := byt_in h45 (by omega)
      cases hs : stands s (k0 + 1) 62 with
      | false =>
        rw [if_neg (by simp)]
        go_wp2_with (first | (go_at_call 111; refine (C1 _).mono ?_; rintro e w5 ⟨v5, rfl, V5, ev5, P5, G5⟩; obtain ⟨op5, x5, y5, a5, n5, cap5, rfl⟩ := V5.form; have hsz : w.heap.size + 1 ≤ w5.heap.size := (by have := G5.kept.size; simp at this; omega); have Q5 := P5.kept0 (Kept.alloc (Kept.refl _ w5) (.cells #[.int .i64 op5, .int .i64 x5, .int .i64 y5, .slice a5 n5 cap5] 36)); have NX := next_at _ base r p ev5 nb fb s k0 d l0 Q5.1; rw [h45] at NX) | (go_at_call 110; refine NX.mono ?_; rintro e w6 ⟨rfl, P6, G6⟩; have c62 := P6.lp.c2; have f62 := P6.lp.row.frozen 2; have P6' := P6.step (k := k0 + 1) (by omega); rw [show ((k0 + 1 : Nat) : Int) = (k0 : Int) + 1 from by omega] at P6'; have MU := must_bad _ base r p ev5 nb fb s (k0 + 1) d l0 P6'.1 62 (by omega) hs) | (go_at_call 112; refine MU.mono ?_; rintro e w7 ⟨rfl, P7, G7⟩))
        exact ⟨rfl, by simp [grefusalV], ev5, _, d, P7, (((((A1 _).2.trans G5).trans Q5.2).trans G6).trans P6'.2).trans G7⟩
      | true =>
        rw [if_pos rfl]
        have hk3 := (of_decide_eq_true hs).1
        have hbl := bl_le (s := s) (i := k0 + 1 + 1) (by omega)
        have hbg := bl_ge s (k0 + 1 + 1)
        cases hp : gp s f 0 d (bl s (k0 + 1 + 1)) l0 with
        | bad e0 q0 l1 =>
          go_wp2_with (first | (go_at_call 111; refine (C1 _).mono ?_; rintro e w5 ⟨v5, rfl, V5, ev5, P5, G5⟩; obtain ⟨op5, x5, y5, a5, n5, cap5, rfl⟩ := V5.form; have hsz : w.heap.size + 1 ≤ w5.heap.size := (by have := G5.kept.size; simp at this; omega); have Q5 := P5.kept0 (Kept.alloc (Kept.refl _ w5) (.cells #[.int .i64 op5, .int .i64 x5, .int .i64 y5, .slice a5 n5 cap5] 36)); have NX := next_at _ base r p ev5 nb fb s k0 d l0 Q5.1; rw [h45] at NX) | (go_at_call 110; refine NX.mono ?_; rintro e w6 ⟨rfl, P6, G6⟩; have c62 := P6.lp.c2; have f62 := P6.lp.row.frozen 2; have P6' := P6.step (k := k0 + 1) (by omega); rw [show ((k0 + 1 : Nat) : Int) = (k0 : Int) + 1 from by omega] at P6'; have MU := must_at _ base r p ev5 nb fb s (k0 + 1) d l0 P6'.1 62 hs) | (go_at_call 112; refine MU.mono ?_; rintro e w7 ⟨rfl, P7, G7⟩))
          have KB : FKeep 0 (w5.alloc (.cells #[.int .i64 op5, .int .i64 x5, .int .i64 y5, .slice a5 n5 cap5] 36)) w7 := ((Q5.1.fkeep G6 0).trans (P6.fkeep P6'.2 0)).trans (P6'.1.fkeep G7 0)
          have KA : FKeep 0 _ w7 := (((A1 _).1.fkeep G5 0).trans (P5.fkeep Q5.2 0)).trans KB
          have B7 := rowIs_keep KB (Nat.zero_le _) (made_form w5 (.int .i64 op5) (.int .i64 x5) (.int .i64 y5) (.slice a5 n5 cap5))
          have F7 := rowIs_keep KA (Nat.zero_le _) (made_form w (.int .i64 0) (.int .i64 0) (.int .i64 0) (.slice none 0 0))
          have V7 : FVal (w.heap.size + 1) w7 _ _ := (V5.mono (by simp)).keep ((P5.fkeep Q5.2 _).trans (KB.mono (Nat.zero_le _)))
          have G7' := (((((A1 _).2.trans G5).trans Q5.2).trans G6).trans P6'.2).trans G7
          have C7 := fun m => H0 (w7.drewN m) base r p ev5 nb fb s (bl s (k0 + 1 + 1)) d l0 (P7.drewN m) (by omega) hd
          obtain ⟨t0, t1, t2, t3⟩ := form_cells B7
          obtain ⟨z0, z1, z2, z3⟩ := form_cells F7
          have y0 := World.rowIs.frozen F7 0
          have y1 := World.rowIs.frozen F7 1
          have y2 := World.rowIs.frozen F7 2
          have y3 := World.rowIs.frozen F7 3
          have HH : Hid (_ ∧ _ ∧ _ ∧ _ ∧ _) := ⟨B7, F7, V7, G7', P7⟩
          have hz7 : w.heap.size + 1 ≤ w7.heap.size := by have := World.rowIs.lt F7; omega
          clear KB KA B7 F7 V7 G7' MU NX c62 f62 P6' P6 G6 Q5 P5 G5 V5 C1 A1 h H0 H1 G7 P7
          generalize w5.heap.size = bf at *
          rw [hp] at C7
          have hP4 : ∀ m, Calls Tryz.prog 68 #[.pointer (some ⟨r, 0, none⟩)] (w7.drewN m) fun e w' => e = .panicked [{ v := grefusalV e0 q0, recovered := false }] ∧ FoPost base r p nb fb s d w ev (.bad e0 q0 l1) e w' := fun m => (C7 m).mono (by
            rintro e w' ⟨h1, ev8, k8, d8, P8, G8⟩
            exact ⟨h1, h1, ev8, k8, d8, P8, (HH.out.2.2.2.1.trans ((Grew.refl _ _ _ _ _ _).drewN m)).trans G8⟩)
          clear C7
          go_region_with (go_at_call 68; refine (hP4 1).mono ?_; rintro e w8 ⟨rfl, hP⟩; refine way_out w8 (And.intro rfl hP) ?_)
          all_goals trivial
        | ok b k2 l2 =>
          go_wp2_with (first | (go_at_call 111; refine (C1 _).mono ?_; rintro e w5 ⟨v5, rfl, V5, ev5, P5, G5⟩; obtain ⟨op5, x5, y5, a5, n5, cap5, rfl⟩ := V5.form; have hsz : w.heap.size + 1 ≤ w5.heap.size := (by have := G5.kept.size; simp at this; omega); have Q5 := P5.kept0 (Kept.alloc (Kept.refl _ w5) (.cells #[.int .i64 op5, .int .i64 x5, .int .i64 y5, .slice a5 n5 cap5] 36)); have NX := next_at _ base r p ev5 nb fb s k0 d l0 Q5.1; rw [h45] at NX) | (go_at_call 110; refine NX.mono ?_; rintro e w6 ⟨rfl, P6, G6⟩; have c62 := P6.lp.c2; have f62 := P6.lp.row.frozen 2; have P6' := P6.step (k := k0 + 1) (by omega); rw [show ((k0 + 1 : Nat) : Int) = (k0 : Int) + 1 from by omega] at P6'; have MU := must_at _ base r p ev5 nb fb s (k0 + 1) d l0 P6'.1 62 hs) | (go_at_call 112; refine MU.mono ?_; rintro e w7 ⟨rfl, P7, G7⟩))
          have KB : FKeep 0 (w5.alloc (.cells #[.int .i64 op5, .int .i64 x5, .int .i64 y5, .slice a5 n5 cap5] 36)) w7 := ((Q5.1.fkeep G6 0).trans (P6.fkeep P6'.2 0)).trans (P6'.1.fkeep G7 0)
          have KA : FKeep 0 _ w7 := (((A1 _).1.fkeep G5 0).trans (P5.fkeep Q5.2 0)).trans KB
          have B7 := rowIs_keep KB (Nat.zero_le _) (made_form w5 (.int .i64 op5) (.int .i64 x5) (.int .i64 y5) (.slice a5 n5 cap5))
          have F7 := rowIs_keep KA (Nat.zero_le _) (made_form w (.int .i64 0) (.int .i64 0) (.int .i64 0) (.slice none 0 0))
          have V7 : FVal (w.heap.size + 1) w7 _ _ := (V5.mono (by simp)).keep ((P5.fkeep Q5.2 _).trans (KB.mono (Nat.zero_le _)))
          have G7' := (((((A1 _).2.trans G5).trans Q5.2).trans G6).trans P6'.2).trans G7
          have C7 := fun m => H0 (w7.drewN m) base r p ev5 nb fb s (bl s (k0 + 1 + 1)) d l0 (P7.drewN m) (by omega) hd
          obtain ⟨t0, t1, t2, t3⟩ := form_cells B7
          obtain ⟨z0, z1, z2, z3⟩ := form_cells F7
          have y0 := World.rowIs.frozen F7 0
          have y1 := World.rowIs.frozen F7 1
          have y2 := World.rowIs.frozen F7 2
          have y3 := World.rowIs.frozen F7 3
          have HH : Hid (_ ∧ _ ∧ _ ∧ _ ∧ _) := ⟨B7, F7, V7, G7', P7⟩
          have hz7 : w.heap.size + 1 ≤ w7.heap.size := by have := World.rowIs.lt F7; omega
          clear KB KA B7 F7 V7 G7' MU NX c62 f62 P6' P6 G6 Q5 P5 G5 V5 C1 A1 h H0 H1 G7 P7
          generalize w5.heap.size = bf at *
          rw [hp] at C7
          go_region_with (go_at_call 68; refine (C7 1).mono ?_; rintro e w8 ⟨v8, rfl, V8, ev8, P8, G8⟩; obtain ⟨op8, x8, y8, a8, n8, cap8, rfl⟩ := V8.form; have K8 := (HH.out.2.2.2.2.drewN 1).fkeep G8 0; have B8 := rowIs_keep K8 (Nat.zero_le _) HH.out.1; obtain ⟨s0, s1, s2, s3⟩ := form_cells B8; have F8 := rowIs_keep K8 (Nat.zero_le _) HH.out.2.1; obtain ⟨u0, u1, u2, u3⟩ := form_cells F8; have x0 := World.rowIs.frozen F8 0; have x1 := World.rowIs.frozen F8 1; have x2 := World.rowIs.frozen F8 2; have x3 := World.rowIs.frozen F8 3; have hlt := World.rowIs.lt F8)
          all_goals
            clear t0 t1 t2 t3 z0 z1 z2 z3 y0 y1 y2 y3 C7 s0 s1 s2 s3 u0 u1 u2 u3 x0 x1 x2 x3
            go_wp2_with fail
            obtain ⟨B7, F7, V7, G7', P7⟩ := HH.out
            have K8' : FKeep 0 w7 w8 := fun k c fz hk hh => K8 k c fz hk hh
            have VA := V7.keep (K8'.mono (Nat.zero_le (w.heap.size + 1)))
            have VB : FVal (w.heap.size + 1) w8 _ _ := V8.mono hz7
            have hz := put_size w8 w.heap.size (.int .i64 4) (.int .i64 0) (.int .i64 0) (.slice (some ⟨w8.heap.size, 0, none⟩) 2 2)
            have KP : FKeep (w.heap.size + 1) w8 _ := put_keep (w := w8) (Nat.lt_succ_self w.heap.size) (.int .i64 4) (.int .i64 0) (.int .i64 0) (.slice (some ⟨w8.heap.size, 0, none⟩) 2 2)
            have V9 := FVal.pair (VA.keep KP) (VB.keep KP) 4 (show w.heap.size + 1 ≤ _ by rw [hz]; omega)
            rw [hz] at V9
            have P9 := P8.put4 F8 (.int .i64 4) (.int .i64 0) (.int .i64 0) (.slice (some ⟨w8.heap.size, 0, none⟩) 2 2)
            have F9 := put_form F8 (.int .i64 4) (.int .i64 0) (.int .i64 0) (.slice (some ⟨w8.heap.size, 0, none⟩) 2 2)
            have G9 := (G7'.trans (((Grew.refl _ _ _ _ _ _).drewN 1).trans G8)).put4 (Nat.le_refl w.heap.size) (.int .i64 4) (.int .i64 0) (.int .i64 0) (.slice (some ⟨w8.heap.size, 0, none⟩) 2 2)
            unfold put4 at P9 F9 G9 V9
            clear KP hz HH
            generalize ((((w8).setCell ⟨w.heap.size, 0, none⟩ (.int .i64 4)).setCell ⟨w.heap.size, 1, none⟩ (.int .i64 0)).setCell ⟨w.heap.size, 2, none⟩ (.int .i64 0)).setCell ⟨w.heap.size, 3, none⟩ (.slice (some ⟨w8.heap.size, 0, none⟩) 2 2) = w9 at P9 F9 G9 V9 ⊢
            have P10 := P9.kept0 (Kept.alloc (Kept.refl _ w9) (.cells #[.int .i64 op5, .int .i64 x5, .int .i64 y5, .slice a5 n5 cap5, .int .i64 op8, .int .i64 x8, .int .i64 y8, .slice a8 n8 cap8] 36))
            have F10 := rowIs_keep (FKeep.alloc 0 w9 (.cells #[.int .i64 op5, .int .i64 x5, .int .i64 y5, .slice a5 n5 cap5, .int .i64 op8, .int .i64 x8, .int .i64 y8, .slice a8 n8 cap8] 36)) (Nat.zero_le _) F9
            generalize w9.alloc (.cells #[.int .i64 op5, .int .i64 x5, .int .i64 y5, .slice a5 n5 cap5, .int .i64 op8, .int .i64 x8, .int .i64 y8, .slice a8 n8 cap8] 36) = w10 at P10 F10 V9 ⊢
            obtain ⟨z0, z1, z2, z3⟩ := form_cells F10
            refine ⟨rfl, .agg #[.int .i64 4, .int .i64 0, .int .i64 0, .slice (some ⟨w8.heap.size, 0, none⟩) 2 2], by simp [results, Tryz.results68, go_sem, z0, z1, z2, z3], ?_⟩
            exact ⟨_, rfl, FValA.mono (fun k hk => Nat.le_of_succ_le hk) V9, ev8, P10.1, G9.trans P10.2⟩
    · rw [if_neg h45]
      have d45 : ((byt s k0 : Int) != 45) = true := by simp; omega
      go_wp2_with (first | (go_at_call 111; refine (C1 _).mono ?_; rintro e w5 ⟨v5, rfl, V5, ev5, P5, G5⟩; obtain ⟨op5, x5, y5, a5, n5, cap5, rfl⟩ := V5.form; have hsz : w.heap.size + 1 ≤ w5.heap.size := (by have := G5.kept.size; simp at this; omega); have Q5 := P5.kept0 (Kept.alloc (Kept.refl _ w5) (.cells #[.int .i64 op5, .int .i64 x5, .int .i64 y5, .slice a5 n5 cap5] 36)); have NX := next_at _ base r p ev5 nb fb s k0 d l0 Q5.1) | (go_at_call 110; refine NX.mono ?_; rintro e w6 ⟨rfl, P6, G6⟩; have B6 := rowIs_keep (Q5.1.fkeep G6 0) (Nat.zero_le _) (made_form w5 (.int .i64 op5) (.int .i64 x5) (.int .i64 y5) (.slice a5 n5 cap5)); have F6 := rowIs_keep ((((A1 _).1.fkeep G5 0).trans (P5.fkeep Q5.2 0)).trans (Q5.1.fkeep G6 0)) (Nat.zero_le _) (made_form w (.int .i64 0) (.int .i64 0) (.int .i64 0) (.slice none 0 0)); obtain ⟨t0, t1, t2, t3⟩ := form_cells B6; obtain ⟨z0, z1, z2, z3⟩ := form_cells F6; have y0 := World.rowIs.frozen F6 0; have y1 := World.rowIs.frozen F6 1; have y2 := World.rowIs.frozen F6 2; have y3 := World.rowIs.frozen F6 3))
      have N := fin_box P6 F6 ((V5.mono (by simp)).keep ((P5.fkeep Q5.2 _).trans (Q5.1.fkeep G6 _))) ((((A1 _).2.trans G5).trans Q5.2).trans G6) (Kept.refl _ _)
      unfold put4 at N
      clear z0 z1 z2 z3 y0 y1 y2 y3 t0 t1 t2 t3
      generalize ((((w6).setCell ⟨w.heap.size, 0, none⟩ (.int .i64 op5)).setCell ⟨w.heap.size, 1, none⟩ (.int .i64 x5)).setCell ⟨w.heap.size, 2, none⟩ (.int .i64 y5)).setCell ⟨w.heap.size, 3, none⟩ (.slice a5 n5 cap5) = w8 at N ⊢
      obtain ⟨z0, z1, z2, z3, V8, P8, G8⟩ := N
      refine ⟨rfl, .agg #[.int .i64 op5, .int .i64 x5, .int .i64 y5, .slice a5 n5 cap5], by simp [results, Tryz.results68, go_sem, z0, z1, z2, z3], ?_⟩
      exact ⟨_, rfl, V8, ev5, P8, G8⟩

/-- The recursion's end. -/
theorem at_alls : ∀ f : Nat, At 68 0 f ∧ At 111 1 f ∧ At 153 2 f ∧ At 194 3 f
  | 0 => ⟨fun _ _ _ _ _ _ _ _ _ _ _ _ hf => absurd hf (by omega), fun _ _ _ _ _ _ _ _ _ _ _ _ hf => absurd hf (by omega), fun _ _ _ _ _ _ _ _ _ _ _ _ hf => absurd hf (by omega), fun _ _ _ _ _ _ _ _ _ _ _ _ hf => absurd hf (by omega)⟩
  | f + 1 => ⟨form_at f (at_alls f).2.1 (at_alls f).1, or_at f (fun g _ => (at_alls g).2.2.1), and_at f (fun g _ => (at_alls g).2.2.2), not_at f (at_alls f).2.2.2 (at_alls f).1⟩

end Go.Proofs.YtlehlgipbhfioaaGreat

namespace Go.Proofs.YtlehlgipbhfioaaGreat
open Go.RowKit Go.Maps

theorem gassert_nil (w : World) : (Instr.typeAssert .nilIface 20 155 true).run Tryz.prog w = .ok (.tuple #[.agg #[.int .i64 0, .int .i64 0], .bool false]) w := by kernel_rfl
theorem gassert_ref (w : World) (v : Value) : (Instr.typeAssert (.iface 155 v) 20 155 true).run Tryz.prog w = .ok (.tuple #[v, .bool true]) w := by kernel_rfl

theorem rep13 : Array.replicate 13 undef = #[undef, undef, undef, undef, undef, undef, undef, undef, undef, undef, undef, undef, undef] := rfl

set_option maxHeartbeats 1000000 in
theorem gcatch_idle (a1 a2 a3 : Value) (w : World) :
    CallsD Tryz.prog 66 #[a1, a2, a3] .returning w fun e u' w' => e = .returned (.tuple #[]) ∧ u' = .returning ∧ w' = w.alloc (.cells #[.int .i64 0, .int .i64 0] 155) := by
  refine callsD_of_wpS Tryz.func66 rfl fun c₀ cs hu => ?_
  apply wpS_seq
  apply wpS_region
  simp [wpOpsS, go_sem, recoverD, hu, Tryz.ntmps66, Exit.thenS, gassert_nil, rep13]
  refine wpS_of_wp ?_
  go_wp2
  cases c₀
  simp_all [bodyPostS, results, Tryz.results66]

/-- whole's three boxes. -/
structure GBoxes (w : World) (b : Nat) (v0 v1 v2 v3 v4 v5 : Value) : Prop where
  f : w.rowIs b 36 4 (frm v0 v1 v2 v3)
  e : Box w (b + 1) 37 v4
  q : Box w (b + 2) 3 v5

theorem GBoxes.kept {w w' : World} {S : Nat → Prop} {b : Nat} {v0 v1 v2 v3 v4 v5 : Value} (h : GBoxes w b v0 v1 v2 v3 v4 v5) (K : Kept S w w') (hS : ∀ k, b ≤ k → k ≤ b + 2 → ¬ S k) : GBoxes w' b v0 v1 v2 v3 v4 v5 :=
  ⟨h.f.of_block (K.block _ h.f.lt (hS _ (by omega) (by omega))), h.e.of_block (K.block _ (World.rowIs.lt h.e) (hS _ (by omega) (by omega))), h.q.of_block (K.block _ (World.rowIs.lt h.q) (hS _ (by omega) (by omega)))⟩

theorem rowIs_other {w : World} {b c n : Nat} {ty : TypeId} {f : Nat → Value} (h : w.rowIs b ty n f) (hne : b ≠ c) (o : Nat) (u : Value) : (w.setCell ⟨c, o, none⟩ u).rowIs b ty n f :=
  h.of_block ((Kept1.set (Kept.refl _ w) o u).block b h.lt hne)
theorem GBoxes.put {w : World} {b : Nat} {v0 v1 v2 v3 v4 v5 : Value} (h : GBoxes w b v0 v1 v2 v3 v4 v5) (u0 u1 u2 u3 u4 u5 : Value) : GBoxes (((put4 w b u0 u1 u2 u3).setCell ⟨b + 1, 0, none⟩ u4).setCell ⟨b + 2, 0, none⟩ u5) b u0 u1 u2 u3 u4 u5 :=
  ⟨rowIs_other (rowIs_other (put_form h.f u0 u1 u2 u3) (by omega) _ _) (by omega) _ _,
   Box.other (Box.set (Box.other (Box.other (Box.other (Box.other h.e (by omega) _ _) (by omega) _ _) (by omega) _ _) (by omega) _ _) u4) (by omega) _ _,
   Box.set (Box.other (Box.other (Box.other (Box.other (Box.other h.q (by omega) _ _) (by omega) _ _) (by omega) _ _) (by omega) _ _) (by omega) _ _) u5⟩
theorem GBoxes.putF {w : World} {b : Nat} {v0 v1 v2 v3 v4 v5 : Value} (h : GBoxes w b v0 v1 v2 v3 v4 v5) (u0 u1 u2 u3 : Value) : GBoxes (put4 w b u0 u1 u2 u3) b u0 u1 u2 u3 v4 v5 :=
  ⟨put_form h.f u0 u1 u2 u3, Box.other (Box.other (Box.other (Box.other h.e (by omega) _ _) (by omega) _ _) (by omega) _ _) (by omega) _ _, Box.other (Box.other (Box.other (Box.other h.q (by omega) _ _) (by omega) _ _) (by omega) _ _) (by omega) _ _⟩
theorem GBoxes.putK (w : World) (b : Nat) (u0 u1 u2 u3 u4 u5 : Value) : Kept (fun k => b ≤ k ∧ k ≤ b + 2) w (((put4 w b u0 u1 u2 u3).setCell ⟨b + 1, 0, none⟩ u4).setCell ⟨b + 2, 0, none⟩ u5) := by
  have h0 : b ≤ b ∧ b ≤ b + 2 := by omega
  have h1 : b ≤ b + 1 ∧ b + 1 ≤ b + 2 := by omega
  have h2 : b ≤ b + 2 ∧ b + 2 ≤ b + 2 := by omega
  exact (((((Kept.refl _ w).setCell (p := ⟨b, 0, none⟩) h0 u0).setCell (p := ⟨b, 1, none⟩) h0 u1).setCell (p := ⟨b, 2, none⟩) h0 u2).setCell (p := ⟨b, 3, none⟩) h0 u3 |>.setCell (p := ⟨b + 1, 0, none⟩) h1 u4).setCell (p := ⟨b + 2, 0, none⟩) h2 u5

set_option maxHeartbeats 2000000 in
theorem gcatch_bad (w : World) (b : Nat) (v0 v1 v2 v3 v4 v5 : Value) (B : GBoxes w b v0 v1 v2 v3 v4 v5) (c q : Int) :
    CallsD Tryz.prog 66 #[.pointer (some ⟨b, 0, none⟩), .pointer (some ⟨b + 1, 0, none⟩), .pointer (some ⟨b + 2, 0, none⟩)] (.panicking [{ v := grefusalV c q, recovered := false }]) w fun e u' w' =>
      e = .returned (.tuple #[]) ∧ u' = .panicking [{ v := grefusalV c q, recovered := true }] ∧ GBoxes w' b (.int .i64 0) (.int .i64 0) (.int .i64 0) (.slice none 0 0) (.int .i64 c) (.int .i64 q) ∧ Kept (fun k => b ≤ k ∧ k ≤ b + 2) w w' := by
  refine callsD_of_wpS Tryz.func66 rfl fun c₀ cs hu => ?_
  unfold grefusalV at hu ⊢
  apply wpS_seq
  apply wpS_region
  simp [wpOpsS, go_sem, recoverD, hu, Tryz.ntmps66, Exit.thenS, gassert_ref, rep13]
  refine wpS_of_wp ?_
  have hx : (w.alloc (Obj.cells #[.int .i64 c, .int .i64 q] 155)).rowIs w.heap.size 155 2 (fun j => (#[Value.int .i64 c, Value.int .i64 q])[j]?.getD undef) := made_row w #[.int .i64 c, .int .i64 q] 155
  generalize hw1 : w.alloc (Obj.cells #[.int .i64 c, .int .i64 q] 155) = w1 at hx ⊢
  have K1 : Kept0 w w1 := hw1 ▸ Kept.alloc (Kept.refl _ w) _
  clear hw1
  have B1 := B.kept K1 (fun _ _ _ e => e)
  have hxb : b + 2 < w.heap.size := World.rowIs.lt B.q
  generalize w.heap.size = x at *
  have x0 : w1.cell? ⟨x, 0, none⟩ = some (.int .i64 c) := World.rowIs.cell hx (i := 0) (by omega)
  have x1 : w1.cell? ⟨x, 1, none⟩ = some (.int .i64 q) := World.rowIs.cell hx (i := 1) (by omega)
  obtain ⟨z0, z1, z2, z3⟩ := form_cells B1.f
  have y0 := World.rowIs.frozen B1.f 0
  have y1 := World.rowIs.frozen B1.f 1
  have y2 := World.rowIs.frozen B1.f 2
  have y3 := World.rowIs.frozen B1.f 3
  have e4 := B1.e.cell
  have e5 := B1.q.cell
  have f4 := B1.e.frozen
  have f5 := B1.q.frozen
  go_wp2_with fail
  go_region
  all_goals
    refine ⟨rfl, _, rfl, .tuple #[], by simp [results, Tryz.results66], rfl, rfl, (B1.put _ _ _ _ _ _).kept (Kept.drew (Kept.refl (fun _ => False) _)) (fun _ _ _ e => e), ?_⟩
    exact ((Kept.mono K1 (fun _ _ e => e.elim)).trans (GBoxes.putK w1 b _ _ _ _ _ _)).drew

theorem Bk.noTy {w : World} {base p : Nat} {ev : Value} {nb fb : Nat} {l : List Tm} (h : Bk w base p ev nb fb l) {k : Nat} (hk : BFoot p ev nb fb k) (e : TypeId) (h1 : 84 ≠ e) (h2 : 152 ≠ e) (c : Array Value) (fz : Nat × Nat) : w.heap[k]? ≠ some (Obj.cells c e fz) := by
  rcases hk with rfl | rfl | rfl | he
  · exact rowIs_ne h.bank h1 c fz
  · obtain ⟨D, h1, _⟩ := h.nums
    exact mapIs_ne h1 c _ fz
  · obtain ⟨D, h1, _⟩ := h.fsts
    exact mapIs_ne h1 c _ fz
  · exact ownsRow_ne h.rows he h2 c fz
theorem Bk.kept_new {w w' : World} {base p : Nat} {ev : Value} {nb fb : Nat} {l : List Tm} (h : Bk w base p ev nb fb l) {b : Nat} {v0 v1 v2 v3 v4 v5 : Value} (B : GBoxes w b v0 v1 v2 v3 v4 v5) (K : Kept (fun k => b ≤ k ∧ k ≤ b + 2) w w') : Bk w' base p ev nb fb l := by
  have hn : ∀ k, BFoot p ev nb fb k → ¬ (b ≤ k ∧ k ≤ b + 2) := fun k hk hb => by
    obtain ⟨c0, h0, _⟩ := B.f
    obtain ⟨c1, h1, _⟩ := B.e
    obtain ⟨c2, h2, _⟩ := B.q
    rcases (by omega : k = b ∨ k = b + 1 ∨ k = b + 2) with rfl | rfl | rfl
    · exact h.noTy hk 36 (by decide) (by decide) _ _ h0
    · exact h.noTy hk 37 (by decide) (by decide) _ _ h1
    · exact h.noTy hk 3 (by decide) (by decide) _ _ h2
  have L := h.low
  exact h.blocks (K.block p L.p (hn _ (Or.inl rfl))) (K.block nb L.n (hn _ (Or.inr (Or.inl rfl)))) (K.block fb L.f (hn _ (Or.inr (Or.inr (Or.inl rfl))))) (fun k e => K.block k (L.e k e) (hn _ (Or.inr (Or.inr (Or.inr e)))))
theorem Grew.kept_new {X S : Nat → Prop} {p nb fb : Nat} {a w w' : World} {ea eb : Value} (G : Grew X p nb fb a ea w eb) (K : Kept S w w') (hS : ∀ k, S k → a.heap.size ≤ k) : Grew X p nb fb a ea w' eb :=
  ⟨⟨K.os.trans G.kept.os, K.tape.trans G.kept.tape, K.output.trans G.kept.output, Nat.le_trans G.kept.size K.size, fun k hk hs => (K.block k (Nat.lt_of_lt_of_le hk G.kept.size) (fun e => by have := hS k e; omega)).trans (G.kept.block k hk hs)⟩, G.row⟩

theorem Bk.keptForm {w w' : World} {base p : Nat} {ev : Value} {nb fb : Nat} {l : List Tm} (h : Bk w base p ev nb fb l) {b n : Nat} {f : Nat → Value} (hb : w.rowIs b 36 n f) (K : Kept1 b w w') : Bk w' base p ev nb fb l := by
  obtain ⟨c, hc, _⟩ := hb
  exact h.kept1 K (fun e => h.noForm (Or.inl rfl) c (0, 0) (e ▸ hc)) (fun e => h.noForm (Or.inr (Or.inl rfl)) c (0, 0) (e ▸ hc)) (fun e => h.noForm (Or.inr (Or.inr (Or.inl rfl))) c (0, 0) (e ▸ hc)) (fun e => h.noForm (Or.inr (Or.inr (Or.inr e))) c (0, 0) hc)

/-- What Parse answers: the formula, the error and its place, the terms. -/
def gWhole (s : ByteArray) (l : List Tm) : Fo × Nat × Nat × List Tm := match gp s (6 * s.size + 5) 0 0 (bl s 0) l with
  | .bad c q l' => (.eq 0 0, c, q, l')
  | .ok f k l' => if k < s.size then (.eq 0 0, 2, k, l') else (f, 0, 0, l')
def gParse (s : ByteArray) (l : List Tm) : Fo × Nat × Nat × List Tm := if 400 < s.size then (.eq 0 0, 1, 0, l) else gWhole s l

theorem gboxes_made (w : World) : GBoxes (((w.alloc (.cells #[.int .i64 0, .int .i64 0, .int .i64 0, .slice none 0 0] 36)).alloc (.cells #[.int .i64 0] 37)).alloc (.cells #[.int .i64 0] 3)) w.heap.size (.int .i64 0) (.int .i64 0) (.int .i64 0) (.slice none 0 0) (.int .i64 0) (.int .i64 0) := by
  have one : ∀ (w : World) (v : Value) (ty : TypeId), Box (w.alloc (.cells #[v] ty)) w.heap.size ty v := fun w v ty => World.rowIs.congr (made_row w #[v] ty) (fun j hj => by
    have : j = 0 := by simp at hj; omega
    subst this; rfl)
  have keep : ∀ {w : World} {b n : Nat} {f : Nat → Value} {ty : TypeId} (o : Obj), w.rowIs b ty n f → (w.alloc o).rowIs b ty n f := fun {w b n f ty} o h => h.of_block ((Kept.alloc (Kept.refl (fun _ => False) w) o).block b (World.rowIs.lt h) (fun e => e))
  have s1 : (w.alloc (.cells #[.int .i64 0, .int .i64 0, .int .i64 0, .slice none 0 0] 36)).heap.size = w.heap.size + 1 := by simp
  have s2 : ((w.alloc (.cells #[.int .i64 0, .int .i64 0, .int .i64 0, .slice none 0 0] 36)).alloc (.cells #[.int .i64 0] 37)).heap.size = w.heap.size + 2 := by simp
  exact ⟨keep _ (keep _ (made_form w _ _ _ _)), keep _ (s1 ▸ one _ (.int .i64 0) 37), s2 ▸ one _ (.int .i64 0) 3⟩

set_option maxRecDepth 100000 in
set_option maxHeartbeats 2000000 in
theorem gwhole_in (w : World) (base r p : Nat) (ev : Value) (nb fb : Nat) (s : ByteArray) (l : List Tm) (h : PB w base r p ev nb fb s 0 0 l) :
    Calls Tryz.prog 37 #[.pointer (some ⟨r, 0, none⟩)] w fun e w' => ∃ v, e = .returned (.tuple #[v, .int .i64 ((gWhole s l).2.1 : Int), .int .i64 ((gWhole s l).2.2.1 : Int)]) ∧ FVal w.heap.size w' v (gWhole s l).1 ∧
      ∃ ev', Bk w' base p ev' nb fb (gWhole s l).2.2.2 ∧ Grew (fun k => k = r) p nb fb w ev w' ev' ∧ (gWhole s l).2.2.2.length ≤ 150 := by
  have hmf : ∀ (fn : Fn) (first cap : Array Value) (w : World), (Instr.makeFunc fn first cap).run Tryz.prog w = .ok (.func fn first cap) w := fun _ _ _ _ => rfl
  have hsm := h.lp.small
  have BM := gboxes_made w
  have K3 : Kept0 w (((w.alloc (.cells #[.int .i64 0, .int .i64 0, .int .i64 0, .slice none 0 0] 36)).alloc (.cells #[.int .i64 0] 37)).alloc (.cells #[.int .i64 0] 3)) := ((Kept.refl _ w).alloc _ |>.alloc _).alloc _
  have S3 : (((w.alloc (.cells #[.int .i64 0, .int .i64 0, .int .i64 0, .slice none 0 0] 36)).alloc (.cells #[.int .i64 0] 37)).alloc (.cells #[.int .i64 0] 3)).heap.size = w.heap.size + 3 := by simp
  have P3 := h.kept0 K3
  have L := h.bk.low
  have hrb := h.lp.row.lt
  go_enter_defers Tryz.func37, Tryz.ntmps37
  have hbl := bl_le (s := s) (i := 0) (by omega)
  have CB : Hid (∀ W ev', Grew (fun k => k = r) p nb fb (((w.alloc (.cells #[.int .i64 0, .int .i64 0, .int .i64 0, .slice none 0 0] 36)).alloc (.cells #[.int .i64 0] 37)).alloc (.cells #[.int .i64 0] 3)) ev W ev' → GBoxes W w.heap.size (.int .i64 0) (.int .i64 0) (.int .i64 0) (.slice none 0 0) (.int .i64 0) (.int .i64 0)) := fun W ev' G => BM.kept G.kept (fun k h1 h2 hk => by
    rcases hk with e | e | e | e | e
    · omega
    · have := L.p; omega
    · have := L.n; omega
    · have := L.f; omega
    · have := L.e k e; omega)
  have BL := gblanks_in _ r _ s 0 0 P3.1.lp
  have C4 : Hid (∀ W, PB W base r p ev nb fb s (bl s 0) 0 l → _) := fun W P => (at_alls (6 * s.size + 5)).1 W base r p ev nb fb s (bl s 0) 0 l P (by omega) (by omega)
  have HW : Hid (gWhole s l = _) := gWhole.eq_1 s l
  go_wp2_with fail
  rw [show w.heap.size + 1 + 1 = w.heap.size + 2 from rfl]
  generalize ((w.alloc (.cells #[.int .i64 0, .int .i64 0, .int .i64 0, .slice none 0 0] 36)).alloc (.cells #[.int .i64 0] 37)).alloc (.cells #[.int .i64 0] 3) = w3 at BM K3 S3 P3 CB BL ⊢
  refine BL.mono ?_
  rintro e w4 ⟨rfl, L4, K4⟩
  have P4 := P3.1.read K4 L4
  have F4 := C4.out w4 P4.1
  clear C4 BL
  cases hg : gp s (6 * s.size + 5) 0 0 (bl s 0) l with
  | bad c q l' =>
    rw [hg] at F4 HW
    go_wp2_with (first | (go_at_call 68; refine F4.mono ?_; rintro e w5 ⟨rfl, ev5, k5, d5, P5, G5⟩))
    have B5 := CB.out w5 ev5 (P4.2.trans G5)
    refine leaves_cons (f := 66) (args := #[.pointer (some ⟨w.heap.size, 0, none⟩), .pointer (some ⟨w.heap.size + 1, 0, none⟩), .pointer (some ⟨w.heap.size + 2, 0, none⟩)]) (by simp) (by simp [go_sem]) ?_
    refine (gcatch_bad w5 w.heap.size _ _ _ _ _ _ B5 c q).mono ?_
    rintro e u' w9 ⟨rfl, rfl, B9, K9⟩
    obtain ⟨z0, z1, z2, z3⟩ := form_cells B9.f
    have z4 := B9.e.cell
    have z5 := B9.q.cell
    refine ⟨.tuple #[.agg #[.int .i64 0, .int .i64 0, .int .i64 0, .slice none 0 0], .int .i64 (c : Int), .int .i64 (q : Int)], ?_, ?_⟩
    · simp [results, Tryz.results37, go_sem, z0, z1, z2, z3, z4, z5]
    · rw [HW.out]
      exact ⟨_, rfl, FVal.eq _ _ _ _, ev5, P5.bk.kept_new B5 K9, Grew.kept_new ((P3.2.trans P4.2).trans G5) K9 (fun k hk => hk.1), P5.few⟩
  | ok f0 k l' =>
    rw [hg] at F4 HW
    go_wp2_with (first | (go_at_call 68; refine F4.mono ?_; rintro e w5 ⟨v5, rfl, V5, ev5, P5, G5⟩; obtain ⟨op5, x5, y5, a5, n5, cap5, rfl⟩ := V5.form; have B5 := CB.out w5 ev5 (P4.2.trans G5); obtain ⟨z0, z1, z2, z3⟩ := form_cells B5.f; have y0 := World.rowIs.frozen B5.f 0; have y1 := World.rowIs.frozen B5.f 1; have y2 := World.rowIs.frozen B5.f 2; have y3 := World.rowIs.frozen B5.f 3))
    have P6 := P5.put4 B5.f (.int .i64 op5) (.int .i64 x5) (.int .i64 y5) (.slice a5 n5 cap5)
    have B6 := B5.putF (.int .i64 op5) (.int .i64 x5) (.int .i64 y5) (.slice a5 n5 cap5)
    have hb3 : w.heap.size + 3 ≤ w4.heap.size := by have := P4.2.kept.size; omega
    have V6 : FVal (w.heap.size + 3) _ _ _ := (V5.mono hb3).keep (put_keep (w := w5) (by omega : w.heap.size < w.heap.size + 3) (.int .i64 op5) (.int .i64 x5) (.int .i64 y5) (.slice a5 n5 cap5))
    have G6 := ((P3.2.trans P4.2).trans G5).put4 (Nat.le_refl w.heap.size) (.int .i64 op5) (.int .i64 x5) (.int .i64 y5) (.slice a5 n5 cap5)
    unfold put4 at P6 B6 V6 G6
    clear z0 z1 z2 z3 y0 y1 y2 y3 F4 CB BM
    generalize ((((w5).setCell ⟨w.heap.size, 0, none⟩ (.int .i64 op5)).setCell ⟨w.heap.size, 1, none⟩ (.int .i64 x5)).setCell ⟨w.heap.size, 2, none⟩ (.int .i64 y5)).setCell ⟨w.heap.size, 3, none⟩ (.slice a5 n5 cap5) = w6 at P6 B6 V6 G6 ⊢
    have c1 := P6.lp.c1
    have c2 := P6.lp.c2
    have hk := P6.lp.le
    by_cases hks : k < s.size
    · have d1 : decide ((k : Int) < s.size) = true := decide_eq_true (by omega)
      rw [if_pos hks] at HW
      go_quiet (fail)
      have c2' : (w6.drewN nq).cell? ⟨r, 2, none⟩ = some (.int .i64 (k : Int)) := c2
      go_wp2_with (go_at_call 69; refine (grefuse_any _ _ _).mono ?_; rintro e w7 ⟨rfl, rfl⟩)
      have B7 : GBoxes (w6.drewN nq) w.heap.size _ _ _ _ _ _ := B6.kept (Kept.drewN (Kept.refl (fun _ => False) w6) nq) (fun _ _ _ e => e)
      refine leaves_cons (f := 66) (args := #[.pointer (some ⟨w.heap.size, 0, none⟩), .pointer (some ⟨w.heap.size + 1, 0, none⟩), .pointer (some ⟨w.heap.size + 2, 0, none⟩)]) (by simp) (by simp [go_sem]) ?_
      refine (gcatch_bad (w6.drewN nq) w.heap.size _ _ _ _ _ _ B7 2 k).mono ?_
      rintro e u' w9 ⟨rfl, rfl, B9, K9⟩
      obtain ⟨z0, z1, z2, z3⟩ := form_cells B9.f
      have z4 := B9.e.cell
      have z5 := B9.q.cell
      refine ⟨.tuple #[.agg #[.int .i64 0, .int .i64 0, .int .i64 0, .slice none 0 0], .int .i64 2, .int .i64 (k : Int)], ?_, ?_⟩
      · simp [results, Tryz.results37, go_sem, z0, z1, z2, z3, z4, z5]
      · rw [HW.out]
        exact ⟨_, rfl, FVal.eq _ _ _ _, ev5, (P6.drewN nq).bk.kept_new B7 K9, Grew.kept_new (G6.drewN nq) K9 (fun k hk => hk.1), P5.few⟩
    · have d1 : decide ((k : Int) < s.size) = false := decide_eq_false (by omega)
      rw [if_neg hks] at HW
      go_quiet (fail)
      have B7 : GBoxes (w6.drewN nq) w.heap.size _ _ _ _ _ _ := B6.kept (Kept.drewN (Kept.refl (fun _ => False) w6) nq) (fun _ _ _ e => e)
      have P7 := P6.drewN nq
      have G7 := G6.drewN nq
      have V7 := V6.keep (show FKeep (w.heap.size + 3) w6 (w6.drewN nq) from fun _ _ _ _ hh => hh)
      clear B6 P6 G6 V6 c1 c2
      generalize w6.drewN nq = w7 at *
      obtain ⟨z0, z1, z2, z3⟩ := form_cells B7.f
      have g0 := World.rowIs.frozen B7.f 0
      have g1 := World.rowIs.frozen B7.f 1
      have g2 := World.rowIs.frozen B7.f 2
      have g3 := World.rowIs.frozen B7.f 3
      have z4 := B7.e.cell
      have z5 := B7.q.cell
      have g4 := B7.e.frozen
      have g5 := B7.q.frozen
      go_wp2_with fail
      have B8 := B7.put (.int .i64 op5) (.int .i64 x5) (.int .i64 y5) (.slice a5 n5 cap5) (.int .i64 0) (.int .i64 0)
      have K8 := GBoxes.putK w7 w.heap.size (.int .i64 op5) (.int .i64 x5) (.int .i64 y5) (.slice a5 n5 cap5) (.int .i64 0) (.int .i64 0)
      unfold put4 at B8 K8
      clear z0 z1 z2 z3 z4 z5 g0 g1 g2 g3 g4 g5
      generalize ((((((w7).setCell ⟨w.heap.size, 0, none⟩ (.int .i64 op5)).setCell ⟨w.heap.size, 1, none⟩ (.int .i64 x5)).setCell ⟨w.heap.size, 2, none⟩ (.int .i64 y5)).setCell ⟨w.heap.size, 3, none⟩ (.slice a5 n5 cap5)).setCell ⟨w.heap.size + 1, 0, none⟩ (.int .i64 0)).setCell ⟨w.heap.size + 2, 0, none⟩ (.int .i64 0) = w8 at B8 K8 ⊢
      have V8 : FVal (w.heap.size + 3) w8 _ _ := V7.keep (fun k c fz hk hh => (K8.block k (Array.getElem?_eq_some_iff.1 hh).1 (fun e => by have h1 : w.heap.size + 3 ≤ k := hk; omega)).trans hh)
      have E8 := P7.bk.kept_new B7 K8
      have G8 := Grew.kept_new G7 K8 (fun k hk => hk.1)
      refine leaves_cons (f := 66) (args := #[.pointer (some ⟨w.heap.size, 0, none⟩), .pointer (some ⟨w.heap.size + 1, 0, none⟩), .pointer (some ⟨w.heap.size + 2, 0, none⟩)]) (by simp) (by simp [go_sem]) ?_
      refine (gcatch_idle _ _ _ w8).mono ?_
      rintro e u' w9 ⟨rfl, rfl, rfl⟩
      have K9 : Kept0 w8 (w8.alloc (.cells #[.int .i64 0, .int .i64 0] 155)) := Kept.alloc (Kept.refl _ w8) _
      have B9 := B8.kept K9 (fun _ _ _ e => e)
      have V9 := V8.keep (FKeep.kept0 K9 _)
      have E9 := E8.kept0 K9
      have G9 := Grew.kept_new G8 K9 (fun _ e => e.elim)
      generalize w8.alloc (.cells #[.int .i64 0, .int .i64 0] 155) = w9 at B9 V9 E9 G9 ⊢
      obtain ⟨z0, z1, z2, z3⟩ := form_cells B9.f
      have z4 := B9.e.cell
      have z5 := B9.q.cell
      refine ⟨.tuple #[.agg #[.int .i64 op5, .int .i64 x5, .int .i64 y5, .slice a5 n5 cap5], .int .i64 0, .int .i64 0], ?_, ?_⟩
      · simp [results, Tryz.results37, go_sem, z0, z1, z2, z3, z4, z5]
      · rw [HW.out]
        exact ⟨_, rfl, V9.mono (by omega), ev5, E9, G9, P5.few⟩

theorem made_pb (w : World) (base p : Nat) (ev : Value) (nb fb : Nat) (l : List Tm) (h : Bk w base p ev nb fb l) (s : ByteArray) (hs : s.size ≤ 400) (hbase : base ≤ w.heap.size) (hf : l.length ≤ 150) :
    PB (w.alloc (.cells #[.pointer (some ⟨p, 0, none⟩), .string s, .int .i64 0, .int .u64 0] 107)) base w.heap.size p ev nb fb s 0 0 l := by
  have K : Kept0 w (w.alloc (.cells #[.pointer (some ⟨p, 0, none⟩), .string s, .int .i64 0, .int .u64 0] 107)) := Kept.alloc (Kept.refl _ w) _
  have L := h.low
  have h1 := L.p
  have h2 := L.n
  have h3 := L.f
  exact ⟨made_parser w _ s 0 0 (Nat.zero_le _) hs, h.kept0 K, by omega, by omega, by omega, fun e => by have := L.e _ e; omega, Nat.le_trans hbase K.size, hf⟩

set_option maxRecDepth 100000 in
set_option maxHeartbeats 1000000 in
theorem gParse_in (w : World) (base p : Nat) (ev : Value) (nb fb : Nat) (l : List Tm) (h : Bk w base p ev nb fb l) (hl : l.length ≤ 150) (hbase : base ≤ w.heap.size) (s : ByteArray) :
    Calls Tryz.prog 17 #[.pointer (some ⟨p, 0, none⟩), .string s] w fun e w' => ∃ v, e = .returned (.tuple #[v, .int .i64 ((gParse s l).2.1 : Int), .int .i64 ((gParse s l).2.2.1 : Int)]) ∧ FVal w.heap.size w' v (gParse s l).1 ∧
      ∃ ev', Bk w' base p ev' nb fb (gParse s l).2.2.2 ∧ Kept (BFoot p ev nb fb) w w' ∧ (ev'.ownBlock = ev.ownBlock ∨ ∀ k, ev'.ownBlock = some k → w.heap.size ≤ k) ∧ (gParse s l).2.2.2.length ≤ 150 := by
  by_cases hs : 400 < s.size
  · have hp : gParse s l = (.eq 0 0, 1, 0, l) := by simp [gParse, hs]
    have d : (400 : Int) < (s.size : Int) := by omega
    go_enter Tryz.func17, Tryz.ntmps17
    go_wp2_with fail
    have F1 := made_form w (.int .i64 0) (.int .i64 0) (.int .i64 0) (.slice none 0 0)
    have K1 : Kept0 w (w.alloc (.cells #[.int .i64 0, .int .i64 0, .int .i64 0, .slice none 0 0] 36)) := Kept.alloc (Kept.refl _ w) _
    generalize w.alloc (.cells #[.int .i64 0, .int .i64 0, .int .i64 0, .slice none 0 0] 36) = w1 at F1 K1 ⊢
    obtain ⟨z0, z1, z2, z3⟩ := form_cells F1
    refine ⟨rfl, .tuple #[.agg #[.int .i64 0, .int .i64 0, .int .i64 0, .slice none 0 0], .int .i64 1, .int .i64 0], by simp [results, Tryz.results17, go_sem, z0, z1, z2, z3], ?_⟩
    rw [hp]
    exact ⟨_, rfl, FVal.eq _ _ _ _, ev, h.kept0 K1, Kept.mono K1 (fun _ _ e => e.elim), Or.inl rfl, hl⟩
  · have hp : gParse s l = gWhole s l := by simp [gParse, hs]
    have d : ¬ (400 : Int) < (s.size : Int) := by omega
    have K1 : Kept0 w (w.alloc (.cells #[.int .i64 0, .int .i64 0, .int .i64 0, .slice none 0 0] 36)) := Kept.alloc (Kept.refl _ w) _
    have hz1 : (w.alloc (.cells #[.int .i64 0, .int .i64 0, .int .i64 0, .slice none 0 0] 36)).heap.size = w.heap.size + 1 := by simp
    have F1 := made_form w (.int .i64 0) (.int .i64 0) (.int .i64 0) (.slice none 0 0)
    have P2 := made_pb (w.alloc (.cells #[.int .i64 0, .int .i64 0, .int .i64 0, .slice none 0 0] 36)) base p ev nb fb l (h.kept0 K1) s (by omega) (by omega) hl
    have F2 := rowIs_keep (FKeep.alloc 0 (w.alloc (.cells #[.int .i64 0, .int .i64 0, .int .i64 0, .slice none 0 0] 36)) (.cells #[.pointer (some ⟨p, 0, none⟩), .string s, .int .i64 0, .int .u64 0] 107)) (Nat.zero_le _) F1
    have K2 : Kept0 w ((w.alloc (.cells #[.int .i64 0, .int .i64 0, .int .i64 0, .slice none 0 0] 36)).alloc (.cells #[.pointer (some ⟨p, 0, none⟩), .string s, .int .i64 0, .int .u64 0] 107)) := K1.alloc _
    have hz2 : ((w.alloc (.cells #[.int .i64 0, .int .i64 0, .int .i64 0, .slice none 0 0] 36)).alloc (.cells #[.pointer (some ⟨p, 0, none⟩), .string s, .int .i64 0, .int .u64 0] 107)).heap.size = w.heap.size + 2 := by simp
    rw [hz1] at P2
    go_enter Tryz.func17, Tryz.ntmps17
    have WH := gwhole_in _ base (w.heap.size + 1) p ev nb fb s l P2
    go_wp2_with fail
    generalize (w.alloc (.cells #[.int .i64 0, .int .i64 0, .int .i64 0, .slice none 0 0] 36)).alloc (.cells #[.pointer (some ⟨p, 0, none⟩), .string s, .int .i64 0, .int .u64 0] 107) = w2 at P2 F2 K2 WH hz2 ⊢
    refine WH.mono ?_
    rintro e w5 ⟨v, rfl, V5, ev5, B5, G5, hfew⟩
    obtain ⟨op5, x5, y5, a5, n5, cap5, rfl⟩ := V5.form
    have F5 := rowIs_keep (P2.fkeep G5 0) (Nat.zero_le _) F2
    obtain ⟨z0, z1, z2, z3⟩ := form_cells F5
    have g0 := World.rowIs.frozen F5 0
    have g1 := World.rowIs.frozen F5 1
    have g2 := World.rowIs.frozen F5 2
    have g3 := World.rowIs.frozen F5 3
    clear WH
    go_wp2_with fail
    have F6 := put_form F5 (.int .i64 op5) (.int .i64 x5) (.int .i64 y5) (.slice a5 n5 cap5)
    have K6 : Kept1 w.heap.size w5 (put4 w5 w.heap.size (.int .i64 op5) (.int .i64 x5) (.int .i64 y5) (.slice a5 n5 cap5)) := Kept1.set (Kept1.set (Kept1.set (Kept1.set (Kept.refl _ w5) 0 _) 1 _) 2 _) 3 _
    have V6 := (V5.mono (Nat.le_of_eq hz2.symm)).keep (put_keep (w := w5) (by omega : w.heap.size < w.heap.size + 2) (.int .i64 op5) (.int .i64 x5) (.int .i64 y5) (.slice a5 n5 cap5))
    have B6 := B5.keptForm F5 K6
    unfold put4 at F6 K6 V6 B6
    clear z0 z1 z2 z3 g0 g1 g2 g3
    generalize ((((w5).setCell ⟨w.heap.size, 0, none⟩ (.int .i64 op5)).setCell ⟨w.heap.size, 1, none⟩ (.int .i64 x5)).setCell ⟨w.heap.size, 2, none⟩ (.int .i64 y5)).setCell ⟨w.heap.size, 3, none⟩ (.slice a5 n5 cap5) = w6 at F6 K6 V6 B6 ⊢
    obtain ⟨z0, z1, z2, z3⟩ := form_cells F6
    have G6 := Grew.kept_new (Grew.trans (⟨Kept.mono K2 (fun _ _ e => e.elim), Or.inl rfl⟩ : Grew (fun k => k = w.heap.size + 1) p nb fb w ev w2 ev) G5) K6 (fun k hk => Nat.le_of_eq hk.symm)
    refine ⟨rfl, .tuple #[.agg #[.int .i64 op5, .int .i64 x5, .int .i64 y5, .slice a5 n5 cap5], .int .i64 ((gWhole s l).2.1 : Int), .int .i64 ((gWhole s l).2.2.1 : Int)], by simp [results, Tryz.results17, go_sem, z0, z1, z2, z3], ?_⟩
    rw [hp]
    exact ⟨_, rfl, V6.mono (by omega), ev5, B6, Kept.mono G6.kept (fun k hk e => e.elim (fun e => by omega) id), G6.row, hfew⟩

end Go.Proofs.YtlehlgipbhfioaaGreat

namespace Go.Proofs.YtlehlgipbhfioaaGreat
open Go.RowKit Go.Maps

/-- What stands just ahead is less than all of them. -/
def LowG (a b : Nat) (G : Nat → Nat) : Prop := a = 0 ∨ ∀ t, a ≤ t → t < b → G (a - 1) < G t

theorem ShG.rot {a b a' : Nat} {G : Nat → Nat} (h : ShG a b G) (h1 : a ≤ a') : ShG a' b (rotG a (a' + 1) G) := by
  refine ⟨fun s t hs hst ht => ?_, fun t ht htb => ?_⟩
  · have := h.up s t (by omega) hst ht
    unfold rotG
    rw [if_neg (by omega), if_neg (by omega), if_neg (by omega), if_neg (by omega)]
    exact this
  · have := h.top t (by omega) htb
    unfold rotG
    rw [if_neg (by omega), if_neg (by omega), if_neg (by omega), if_pos (by omega)]
    exact this
theorem rot_rot {a b a' : Nat} (G : Nat → Nat) (h1 : a ≤ a') (h2 : a' < b ∨ a' = a) (t : Nat) : rotG a' b (rotG a (a' + 1) G) t = rotG a b G t := by
  unfold rotG
  grind
theorem ShG.prt {a b p : Nat} {R : Nat → Nat} (h : ShG a b R) (h1 : a + 2 ≤ p) (h2 : p < b) : ShG a (p - 1) (prtB a p R) := by
  refine ⟨fun s t hs hst ht => ?_, fun t ht htb => ?_⟩
  · have := h.up s t (by omega) hst (by omega)
    unfold prtB
    rw [if_neg (by omega), if_neg (by omega), if_neg (by omega), if_neg (by omega), if_neg (by omega), if_neg (by omega)]
    exact this
  · have := h.up t (p - 1) (by omega) (by omega) (by omega)
    unfold prtB
    rw [if_neg (by omega), if_neg (by omega), if_neg (by omega), if_pos rfl]
    exact this
theorem rot_prt {a a' p : Nat} (G : Nat → Nat) (h1 : a ≤ a') (h2 : a' + 2 ≤ p) (t : Nat) : rotG a (p + 1) G t = rotG a' (p - 1) (prtB a' p (rotG a (a' + 1) G)) t := by
  unfold rotG prtB
  grind
theorem LowG.rot {a b a' : Nat} {G : Nat → Nat} (h : LowG a b G) (hs : ShG a b G) (h1 : a ≤ a') (h2 : a' < b ∨ a' = a) : LowG a' b (rotG a (a' + 1) G) := by
  by_cases e : a' = a
  · subst e
    rcases h with h | h
    · exact Or.inl h
    · refine Or.inr fun t ht htb => ?_
      have := h t ht htb
      by_cases e2 : a' = 0
      · subst e2
        exact absurd (h 0 (by omega) (by omega)) (Nat.lt_irrefl _)
      unfold rotG
      grind
  · refine Or.inr fun t ht htb => ?_
    have h3 := hs.top a' (by omega) (by omega)
    by_cases e3 : t = a'
    · unfold rotG
      grind
    · have h4 := hs.up a' t (by omega) (by omega) htb
      unfold rotG
      grind
theorem LowG.prt {a b p : Nat} {R : Nat → Nat} (h : LowG a b R) (h1 : a + 2 ≤ p) (h2 : p < b) : LowG a (p - 1) (prtB a p R) := by
  rcases h with h | h
  · exact Or.inl h
  · by_cases e2 : a = 0
    · exact Or.inl e2
    refine Or.inr fun t ht htb => ?_
    have h3 := h t ht (by omega)
    have h4 := h (p - 1) (by omega) (by omega)
    unfold prtB
    grind

set_option maxRecDepth 100000 in
set_option maxHeartbeats 0 in
/-- It rotates them. -/
theorem pdqG_in (N : Nat) : ∀ (w : World) (g n c a b lim : Nat) (G : Nat → Nat), b - a < N → RowG w g n G → a ≤ b → b ≤ n → n ≤ 1000000 → ShG a b G → LowG a b G → 1 ≤ lim → lim ≤ 100 →
    Calls Tryz.prog 162 #[.slice (some ⟨g, 0, none⟩) n c, .int .i64 (a : Int), .int .i64 (b : Int), .int .i64 (lim : Int)] w fun e w' => e = .returned (.tuple #[]) ∧ RowG w' g n (rotG a b G) ∧ Kept (fun k => k = g) w w' := by
  induction N with
  | zero => intro w g n c a b lim G hN; exact absurd hN (Nat.not_lt_zero _)
  | succ N IH =>
    intro w g n c a b lim G hN h hab hb hn hs hl hl1 hl2
    have HS : Hid (ShG a b G ∧ LowG a b G) := ⟨hs, hl⟩
    have HI : Hid _ := IH
    have HR0 : Hid (RowG w g n (rotG a (a + 1) G) ∧ Kept (fun k => k = g) w w) := ⟨h.congr fun t _ => rot_one a G t, Kept.refl _ _⟩
    have dl : ((lim : Int) == 0) = false := by simp; omega
    clear IH h hs hl
    go_enter Tryz.func162, Tryz.ntmps162
    go_wp2_with fail
    go_loopw [1, 2, 3, 8, 9] (fun t1 t2 t3 t8 t9 W => t2 = .int .i64 (b : Int) ∧ t3 = .int .i64 (lim : Int) ∧ t8 = .bool true ∧ t9 = .bool true ∧ ∃ a' : Nat, a ≤ a' ∧ (a' < b ∨ a' = a) ∧ t1 = .int .i64 (a' : Int) ∧ Hid (RowG W g n (rotG a (a' + 1) G) ∧ Kept (fun k => k = g) w W)) (fun t1 _ _ _ _ _ => b - (intOf t1).toNat)
    case atStart => exact ⟨rfl, rfl, rfl, rfl, a, Nat.le_refl _, Or.inr rfl, rfl, HR0⟩
    case round =>
      clear HR0
      obtain ⟨rfl, rfl, rfl, rfl, a', ha1, ha2, rfl, HV⟩ := hrel
      have hwba : IntKind.i64.wrap ((b : Int) - (a' : Int)) = (b : Int) - (a' : Int) := by rw [IntKind.wrap_i64]; omega
      have HD : Hid (∀ W, RowG W g n (rotG a' b (rotG a (a' + 1) G)) → RowG W g n (rotG a b G)) := fun W hW => hW.congr fun t _ => (rot_rot G ha1 ha2 t).symm
      have HS2 : Hid (ShG a' b (rotG a (a' + 1) G) ∧ LowG a' b (rotG a (a' + 1) G)) := ⟨HS.out.1.rot ha1, HS.out.2.rot HS.out.1 ha1 ha2⟩
      have HP : Hid (∀ W p, a' + 2 ≤ p → RowG W g n (rotG a' (p - 1) (prtB a' p (rotG a (a' + 1) G))) → RowG W g n (rotG a (p + 1) G)) := fun W p hp hW => hW.congr fun t _ => rot_prt G ha1 hp t
      generalize rotG a (a' + 1) G = R at HV HD HS2 HP
      by_cases h12 : b ≤ a' + 12
      · have d12 : decide ((b : Int) - (a' : Int) ≤ 12) = true := decide_eq_true (by omega)
        have IN := fun m => insR_in (wr.drewN m) g n c a' b R (HV.out.1.drew m) (by omega) hb hn HS2.out.1
        have HIN : Hid _ := IN
        clear IN
        go_wp2_with (first | (go_at_call 201; refine (HIN.out 0).mono ?_; rintro e w3 ⟨rfl, HY⟩))
        exact ⟨rfl, .tuple #[], by simp [results, Tryz.results162], rfl, HD.out _ HY.1, HV.out.2.trans HY.2⟩
      · have d12 : decide ((b : Int) - (a' : Int) ≤ 12) = false := decide_eq_false (by omega)
        have hab3 : a' + 13 ≤ b := by omega
        obtain ⟨p, hp⟩ : ∃ p, p = a' + (b - a') / 4 * 2 := ⟨_, rfl⟩
        have HCH : Hid (Calls Tryz.prog 204 #[.slice (some ⟨g, 0, none⟩) n c, .int .i64 (a' : Int), .int .i64 (b : Int)] wr fun e w' => e = .returned (.tuple #[.int .i64 (p : Int), .int .i64 1]) ∧ Below wr.heap.size wr w') := by
          have := choose_in wr g n c a' b R HV.out.1 hab3 hb hn (fun s t h1 h2 h3 => by
            rcases Nat.lt_or_eq_of_le h2 with h4 | h4
            · exact Nat.le_of_lt (HS2.out.1.up s t h1 h4 h3)
            · rw [h4]; exact Nat.le_refl _)
          rw [← hp] at this
          exact this
        have HBK : Hid (∀ w3, Below wr.heap.size wr w3 → RowG w3 g n R ∧ Kept (fun k => k = g) w w3) := fun w3 hB => ⟨HV.out.1.below hB, HV.out.2.trans ⟨hB.os, hB.tape, hB.output, hB.size, fun k hk _ => hB.block k hk⟩⟩
        have hp2 : a' + 2 ≤ p := by omega
        have hpb : p < b := by omega
        have hpl : 8 * (p - 1 - a') ≥ b - a' := by omega
        have hpr : p - 1 - a' < b - (p - 1) := by omega
        clear hp HV
        go_wp2_with (first | (go_at_call 204; refine HCH.out.mono ?_; rintro e w3 ⟨rfl, HB⟩; have HV3 : Hid _ := HBK.out w3 HB; clear HBK HB HCH))
        by_cases h50 : a' + 50 ≤ b
        · go_wp2_with (first | (go_at_call 206; refine (partI_yes w3 g n c a' b R HV3.out.1 hb hn HS2.out.1 h50).mono ?_; rintro e w4 ⟨rfl, HY⟩))
          exact ⟨rfl, .tuple #[], by simp [results, Tryz.results162], rfl, HD.out _ HY.1, HV3.out.2.trans HY.2⟩
        · obtain ⟨q, hq⟩ : ∃ q, q = p - 1 := ⟨_, rfl⟩
          have HPN : Hid (∀ W, RowG W g n R → Calls Tryz.prog 209 #[.slice (some ⟨g, 0, none⟩) n c, .int .i64 (a' : Int), .int .i64 (b : Int), .int .i64 (p : Int)] W fun e w' => e = .returned (.tuple #[.int .i64 (q : Int), .bool true]) ∧ RowG w' g n (prtB a' p R) ∧ Kept (fun k => k = g) W w') := fun W hW => by
            have := partn_in W g n c a' b p R hW hp2 hpb hb hn HS2.out.1
            rw [← hq] at this
            exact this
          have HIH : Hid (∀ W, RowG W g n (prtB a' p R) → Calls Tryz.prog 162 #[.slice (some ⟨g, 0, none⟩) n c, .int .i64 (a' : Int), .int .i64 (q : Int), .int .i64 (lim : Int)] W fun e w' => e = .returned (.tuple #[]) ∧ RowG w' g n (rotG a' q (prtB a' p R)) ∧ Kept (fun k => k = g) W w') := fun W hW => HI.out W g n c a' q lim (prtB a' p R) (by omega) hW (by omega) (by omega) hn (by rw [hq]; exact HS2.out.1.prt hp2 hpb) (by rw [hq]; exact HS2.out.2.prt hp2 hpb) hl1 hl2
          have h1 : IntKind.i64.wrap ((q : Int) - (a' : Int)) = (q : Int) - (a' : Int) := by rw [IntKind.wrap_i64]; omega
          have h2 : IntKind.i64.wrap ((b : Int) - (q : Int)) = (b : Int) - (q : Int) := by rw [IntKind.wrap_i64]; omega
          have h3 : IntKind.i64.wrap ((q : Int) + 1) = (q : Int) + 1 := by rw [IntKind.wrap_i64]; omega
          have h4 : decide ((q : Int) - (a' : Int) < (b : Int) - (q : Int)) = true := decide_eq_true (by omega)
          have HQ : Hid (q = p - 1 ∧ a' + 2 ≤ p ∧ p < b ∧ p ≤ n ∧ 8 * (p - 1 - a') ≥ b - a') := ⟨hq, hp2, hpb, by omega, hpl⟩
          have hwl : 8 * ((q : Int) - a') ≥ (b : Int) - a' := by omega
          clear hq hpl hpr
          go_wp2_with (first | (go_at_call 206; refine (partI_no w3 g n c a' b R HV3.out.1 (by omega) hb hn HS2.out.1 (by omega)).mono ?_; rintro e w4 ⟨rfl, m4, hw4⟩; have HV4 : Hid (RowG w4 g n R ∧ Kept (fun k => k = g) w w4) := (by rw [hw4]; exact ⟨HV3.out.1.drew m4, HV3.out.2.drewN m4⟩); clear hw4 HV3))
          by_cases hz : a' = 0
          · have dz : decide ((0 : Int) < (a' : Int)) = false := decide_eq_false (by omega)
            have dz1 : decide ((a' : Int) > 0) = false := decide_eq_false (by omega)
            have dz2 : decide (0 < a') = false := decide_eq_false (by omega)
            clear hz
            go_quiet (fail)
            go_wp2_with (first | (go_at_call 209; refine Calls.mono (HPN.out _ (by exact HV4.out.1)) ?_; rintro e w5 ⟨rfl, HY⟩) | (go_at_call 162; refine Calls.mono (HIH.out _ HY.1) ?_; rintro e w6 ⟨rfl, HZ⟩))
            have hqq := HQ.out
            have hz1 := HZ.1
            rw [hqq.1] at hz1
            refine ⟨⟨rfl, rfl, by rw [decide_eq_true (by omega)], rfl, p, by omega, Or.inl hpb, ?_, HP.out _ p hp2 hz1, (HV4.out.2.drewN nq).trans (HY.2.trans HZ.2)⟩, by simp [intOf]; omega⟩
            have e : (q : Int) + 1 = (p : Int) := by omega
            rw [e]
          · have HK : Hid (∃ k, a' = k + 1) := ⟨a' - 1, by omega⟩
            obtain ⟨k, hk⟩ := HK.out
            have dz : decide ((0 : Int) < (a' : Int)) = true := decide_eq_true (by omega)
            have dz1 : decide ((a' : Int) > 0) = true := decide_eq_true (by omega)
            have dz2 : decide (0 < a') = true := decide_eq_true (by omega)
            have hkw : IntKind.i64.wrap ((a' : Int) - 1) = (k : Int) := by rw [IntKind.wrap_i64]; omega
            have hkw2 : wrap64 ((a' : Int) - 1) = (k : Int) := by unfold wrap64; omega
            have hkw3 : (a' : Int) - 1 = (k : Int) := by omega
            have cx := HV4.out.1.cell k (by omega)
            have cp := HV4.out.1.cell p (by omega)
            have hlt : R k < R p := by
              rcases HS2.out.2 with h | h
              · omega
              · have := h p (by omega) hpb
                rwa [hk, Nat.add_sub_cancel] at this
            have LS := fun W : World => sLess_in W (R k : Int) (R p : Int)
            have dx : decide ((R k : Int) < (R p : Int)) = true := decide_eq_true (by omega)
            have dx2 : decide (R k < R p) = true := decide_eq_true hlt
            have hkn : k < n := by omega
            have hpn : p < n := by omega
            clear hz hk HK hlt
            generalize R k = x at cx LS dx dx2
            generalize R p = y at cp LS dx dx2
            go_quiet ((go_at_call 207; exact Calls.quiet_of_same ((LS _).mono fun _ _ x => ⟨x.1, x.2.symm⟩)))
            clear cx cp LS dx dx2
            go_wp2_with (first | (go_at_call 209; refine Calls.mono (HPN.out _ (by exact HV4.out.1)) ?_; rintro e w5 ⟨rfl, HY⟩) | (go_at_call 162; refine Calls.mono (HIH.out _ HY.1) ?_; rintro e w6 ⟨rfl, HZ⟩))
            have hqq := HQ.out
            have hz1 := HZ.1
            rw [hqq.1] at hz1
            refine ⟨⟨rfl, rfl, by rw [decide_eq_true (by omega)], rfl, p, by omega, Or.inl hpb, ?_, HP.out _ p hp2 hz1, (HV4.out.2.drewN nq).trans (HY.2.trans HZ.2)⟩, by simp [intOf]; omega⟩
            have e : (q : Int) + 1 = (p : Int) := by omega
            rw [e]
end Go.Proofs.YtlehlgipbhfioaaGreat

namespace Go.Proofs.YtlehlgipbhfioaaGreat
open Go.RowKit Go.Maps

theorem RowL.places {W : World} {g : Nat} {xs : List Nat} (h : RowL W g xs) : RowG W g xs.length (fun t => xs.getD t 0) := by
  unfold RowL at h
  unfold RowG
  rw [h]
  congr 2
  refine congrArg List.toArray (List.ext_getElem? fun t => ?_)
  by_cases ht : t < xs.length
  · simp [ht]
  · simp [ht]
theorem RowG.list {W : World} {g : Nat} {ys : List Nat} {G : Nat → Nat} (h : RowG W g ys.length G) (e : ∀ t, t < ys.length → G t = ys.getD t 0) : RowL W g ys := by
  unfold RowG at h
  unfold RowL
  rw [h]
  congr 2
  refine congrArg List.toArray (List.ext_getElem? fun t => ?_)
  by_cases ht : t < ys.length
  · simp [ht, e t ht]
  · simp [ht]
theorem shp_g {m : Nat} {r : List Nat} (h1 : r.Pairwise (· < ·)) (h2 : ∀ x ∈ r, x < m) : ShG 0 (m :: r).length (fun t => (m :: r).getD t 0) := by
  refine ⟨fun s t hs hst ht => ?_, fun t ht htb => ?_⟩
  · obtain ⟨s, rfl⟩ : ∃ s', s = s' + 1 := ⟨s - 1, by omega⟩
    obtain ⟨t, rfl⟩ : ∃ t', t = t' + 1 := ⟨t - 1, by omega⟩
    have ht2 : t < r.length := by simpa using ht
    have := List.pairwise_iff_getElem.1 h1 s t (by omega) ht2 (by omega)
    simpa [ht2, show s < r.length by omega] using this
  · obtain ⟨t, rfl⟩ : ∃ t', t = t' + 1 := ⟨t - 1, by omega⟩
    have ht2 : t < r.length := by simpa using htb
    have := h2 r[t] (List.getElem_mem ht2)
    simpa [ht2] using this
theorem rot_list (m : Nat) (r : List Nat) (t : Nat) (ht : t < (r ++ [m]).length) : rotG 0 (m :: r).length (fun t => (m :: r).getD t 0) t = (r ++ [m]).getD t 0 := by
  have h : t < r.length + 1 := by simpa using ht
  unfold rotG
  by_cases e : t < r.length
  · rw [if_pos ⟨Nat.zero_le _, by simp; omega⟩]
    show (m :: r).getD (t + 1) 0 = _
    rw [List.getD_eq_getElem?_getD, List.getD_eq_getElem?_getD, List.getElem?_append_left e, List.getElem?_cons_succ]
  · obtain rfl : t = r.length := by omega
    rw [if_neg (by simp), if_pos ⟨Nat.zero_le _, by simp⟩]
    simp

set_option maxRecDepth 100000 in
set_option maxHeartbeats 1000000 in
theorem sSortG_in (w : World) (g m : Nat) (r : List Nat) (c : Nat) (h : RowL w g (m :: r)) (h1 : r.Pairwise (· < ·)) (h2 : ∀ x ∈ r, x < m) (hn1 : 13 ≤ (m :: r).length) (hn : (m :: r).length ≤ 1000) :
    Calls Tryz.prog 126 #[.slice (some ⟨g, 0, none⟩) (m :: r).length c] w fun e w' => e = .returned (.tuple #[]) ∧ RowL w' g (r ++ [m]) ∧ Kept (fun k => k = g) w w' := by
  have HPD : Hid (∀ lim : Nat, 1 ≤ lim → lim ≤ 100 → Calls Tryz.prog 162 #[.slice (some ⟨g, 0, none⟩) (m :: r).length c, .int .i64 0, .int .i64 ((m :: r).length : Int), .int .i64 (lim : Int)] w fun e w' => e = .returned (.tuple #[]) ∧ RowL w' g (r ++ [m]) ∧ Kept (fun k => k = g) w w') := fun lim l1 l2 => by
    have := pdqG_in ((m :: r).length + 1) w g (m :: r).length c 0 (m :: r).length lim _ (by omega) h.places (Nat.zero_le _) (Nat.le_refl _) (by omega) (shp_g h1 h2) (Or.inl rfl) l1 l2
    refine Calls.mono this ?_
    rintro e w' ⟨rfl, hr, hk⟩
    refine ⟨rfl, RowG.list (ys := r ++ [m]) (G := rotG 0 (m :: r).length (fun t => (m :: r).getD t 0)) ?_ (fun t ht => rot_list m r t ht), hk⟩
    have e : (r ++ [m]).length = (m :: r).length := by simp
    rw [e]
    exact hr
  have LE := len_pos w (m :: r).length hn1 hn
  have HLE : Hid _ := LE
  have hw : IntKind.u64.wrap ((m :: r).length : Int) = ((m :: r).length : Int) := by rw [IntKind.wrap_u64]; omega
  clear h h1 h2 hn1 hn LE
  generalize (m :: r).length = n at *
  go_enter Tryz.func126, Tryz.ntmps126
  go_wp2_with (first | (go_at_call 162; refine (HPD.out _ hk1 hk2).mono ?_; rintro e w3 ⟨rfl, HY⟩) | (go_at_call 145; refine Calls.mono HLE.out ?_; rintro e w3 ⟨k, rfl, hk1, hk2, rfl⟩))
  exact ⟨rfl, .tuple #[], by simp [results, Tryz.results126], rfl, HY⟩

/-- Of either kind. -/
theorem sSort2_in (w : World) (g : Nat) (xs : List Nat) (c : Nat) (h : RowL w g xs) (hn : xs.length ≤ 12 ∨ (xs.length ≤ 1000 ∧ ∃ m r, xs = m :: r ∧ r.Pairwise (· < ·) ∧ ∀ x ∈ r, x < m)) (hc : xs.length ≤ c) :
    Calls Tryz.prog 126 #[.slice (some ⟨g, 0, none⟩) xs.length c] w fun e w' => e = .returned (.tuple #[]) ∧ ∃ ys, RowL w' g ys ∧ ys.Perm xs ∧ ys.Pairwise (· ≤ ·) ∧ Kept (fun k => k = g) w w' := by
  by_cases h12 : xs.length ≤ 12
  · exact sSort_in w g xs c h h12 hc
  · rcases hn with hn | ⟨hn, m, r, rfl, h1, h2⟩
    · exact absurd hn h12
    · refine (sSortG_in w g m r c h h1 h2 (by omega) hn).mono ?_
      rintro e w' ⟨rfl, hr, hk⟩
      refine ⟨rfl, r ++ [m], hr, List.perm_append_singleton m r, List.pairwise_append.2 ⟨h1.imp Nat.le_of_lt, List.pairwise_singleton _ _, fun x hx y hy => ?_⟩, hk⟩
      rw [List.mem_singleton.1 hy]
      exact Nat.le_of_lt (h2 x hx)
end Go.Proofs.YtlehlgipbhfioaaGreat

namespace Go.Proofs.YtlehlgipbhfioaaGreat
open Go.RowKit Go.Maps Go.Sort Go.Lib

theorem RowL.holds {W : World} {g : Nat} {xs : List Nat} (h : RowL W g xs) : Holds (Value.int .i32) W g 0 (xs.map Int.ofNat).toArray := fun j hj => by
  have hj2 : j < xs.length := by simpa using hj
  rw [Nat.zero_add]
  refine ⟨?_, h.frozen j⟩
  rw [h.cell (List.getElem?_eq_getElem hj2)]
  simp [hj2]

theorem RowL.put {W : World} {g : Nat} {xs ys : List Nat} (h : RowL W g xs) (hl : ys.length = xs.length) (q : Nat) : RowL (putRow (Value.int .i32) (Sort.ahead W q) g 0 (ys.map Int.ofNat).toArray) g ys ∧ Kept (fun k => k = g) W (putRow (Value.int .i32) (Sort.ahead W q) g 0 (ys.map Int.ofNat).toArray) := by
  constructor
  · unfold RowL at h ⊢
    unfold putRow mapBlock
    simp only [Sort.ahead, Array.getElem?_modify, h, if_true, Option.map_some, onCells]
    congr 2
    apply Array.ext
    · simp [putCells, hl]
    · intro i h1 h2
      have hi : i < ys.length := by simpa using h2
      simp only [putCells, Array.getElem_mapIdx, Nat.zero_le, Nat.zero_add, Nat.sub_zero, true_and]
      rw [if_pos (by simpa using hi)]
      simp [hi, i32]
  · refine ⟨rfl, rfl, rfl, ?_, fun k _ hk => ?_⟩
    · simp [putRow, mapBlock, Sort.ahead]
    · unfold putRow mapBlock
      simp only [Sort.ahead, Array.getElem?_modify]
      rw [if_neg (fun e => hk e.symm)]

theorem infoLitY : (Tryz.prog.info? 192).map (fun i => (i.zero, i.size, i.bytes)) = some (some (.int .i32 0), 1, 4) := by kernel_rfl
theorem make_lits (w : World) (n : Nat) (hn : n ≤ 1048577) : (Instr.makeSlice 178 (.int .i64 (n : Int)) (.int .i64 (n : Int))).run Tryz.prog w = .ok (.slice (some ⟨w.heap.size, 0, none⟩) n n) (w.alloc (.cells (List.replicate n (.int .i32 0)).toArray 192)) := by
  obtain ⟨i0, hi0, hz0, hz1, hz2⟩ := info_parts infoLitY
  have hmk := run_make (P := Tryz.prog) w 178 192 i0 _ Tryz.underlying178 hi0 hz0 .i64 .i64 (n : Int) (n : Int) (by omega) (Int.le_refl _) (by rw [hz2]; omega) (by omega)
  rw [hz1] at hmk
  simp only [Int.toNat_natCast, Nat.mul_one] at hmk
  rw [← madeCells_one]
  exact hmk

/-- Two strictly rising lists with the same elements are one. -/
theorem rising_eq : ∀ {xs ys : List Nat}, xs.Pairwise (· < ·) → ys.Pairwise (· < ·) → (∀ a, a ∈ xs ↔ a ∈ ys) → xs = ys
  | [], [], _, _, _ => rfl
  | [], y :: ys, _, _, h => by have := (h y).2 (by simp); simp at this
  | x :: xs, [], _, _, h => by have := (h x).1 (by simp); simp at this
  | x :: xs, y :: ys, h1, h2, h => by
    obtain ⟨a1, a2⟩ := List.pairwise_cons.1 h1
    obtain ⟨b1, b2⟩ := List.pairwise_cons.1 h2
    have e : x = y := by
      rcases List.mem_cons.1 ((h x).1 (by simp)) with e | e
      · exact e
      · rcases List.mem_cons.1 ((h y).2 (by simp)) with e2 | e2
        · exact e2.symm
        · have q1 := b1 x e
          have q2 := a1 y e2
          omega
    subst e
    rw [rising_eq a2 b2 (fun a => ⟨fun ha => ?_, fun ha => ?_⟩)]
    · rcases List.mem_cons.1 ((h a).1 (by simp [ha])) with e | e
      · have := a1 a ha; omega
      · exact e
    · rcases List.mem_cons.1 ((h a).2 (by simp [ha])) with e | e
      · have := b1 a ha; omega
      · exact e

/-- Compact of a rising list. -/
theorem compact_rising {xs : List Nat} (h : xs.Pairwise (· ≤ ·)) : ∃ ds : List Nat, compactUpTo (xs.map Int.ofNat).toArray (xs.map Int.ofNat).toArray.size = ds.map Int.ofNat ∧ ds.Pairwise (· < ·) ∧ (∀ a, a ∈ ds ↔ a ∈ xs) ∧ ds.length ≤ xs.length := by
  have hget : ∀ j (hj : j < xs.length), (xs.map Int.ofNat).toArray[j]! = ((xs[j] : Nat) : Int) := fun j hj => by simp [hj]
  have key : ∀ m, m ≤ xs.length → ∃ ds : List Nat, compactUpTo (xs.map Int.ofNat).toArray m = ds.map Int.ofNat ∧ ds.Pairwise (· < ·) ∧ (∀ a, a ∈ ds ↔ a ∈ xs.take m) ∧ ds.length ≤ m := fun m => by
    induction m with
    | zero => intro _; exact ⟨[], by simp [compactUpTo], List.Pairwise.nil, by simp, by simp⟩
    | succ m ih =>
      intro hm
      obtain ⟨ds, e1, e2, e3, e4⟩ := ih (by omega)
      have hml : m < xs.length := by omega
      rw [compactUpTo_succ, e1]
      have htk : ∀ a, a ∈ xs.take (m + 1) ↔ a ∈ xs.take m ∨ a = xs[m] := fun a => by rw [List.take_add_one, List.getElem?_eq_getElem hml, Option.toList_some, List.mem_append, List.mem_singleton]
      by_cases hk : keeps (xs.map Int.ofNat).toArray m = true
      · rw [if_pos hk, hget m hml]
        refine ⟨ds ++ [xs[m]], by simp, ?_, fun a => ?_, by simp; omega⟩
        · rw [List.pairwise_append]
          refine ⟨e2, by simp, fun a ha b hb => ?_⟩
          simp at hb
          subst hb
          have ha2 := (e3 a).1 ha
          obtain ⟨i, hi, rfl⟩ := List.mem_iff_getElem.1 ha2
          have him : i < m := by simp at hi; omega
          simp only [List.getElem_take]
          have hle := List.pairwise_iff_getElem.1 h
          unfold keeps at hk
          have hk := of_decide_eq_true hk
          rcases hk with hk | hk
          · omega
          · rw [hget m hml, hget (m - 1) (by omega)] at hk
            have q1 : xs[i]'(by omega) ≤ xs[m - 1]'(by omega) := by
              by_cases e : i = m - 1
              · subst e; exact Nat.le_refl _
              · exact hle i (m - 1) (by omega) (by omega) (by omega)
            have q2 : xs[m - 1]'(by omega) ≤ xs[m] := hle (m - 1) m (by omega) (by omega) (by omega)
            omega
        · rw [List.mem_append, e3, List.mem_singleton, htk]
      · rw [if_neg hk]
        refine ⟨ds, by simp, e2, fun a => ?_, by omega⟩
        rw [e3, htk]
        refine ⟨Or.inl, fun ha => ha.elim id (fun e => ?_)⟩
        unfold keeps at hk
        simp only [decide_eq_true_eq, not_or, Classical.not_not] at hk
        obtain ⟨hm0, hk⟩ := hk
        rw [hget m hml, hget (m - 1) (by omega)] at hk
        have : xs[m] = xs[m - 1]'(by omega) := by omega
        rw [e, this]
        exact List.mem_iff_getElem.2 ⟨m - 1, by simp; omega, by simp⟩
  obtain ⟨ds, e1, e2, e3, e4⟩ := key xs.length (Nat.le_refl _)
  exact ⟨ds, by simpa using e1, e2, fun a => by rw [e3, List.take_length], e4⟩


theorem sCompact_in (w : World) (g : Nat) (xs : List Nat) (c : Nat) (h : RowL w g xs) (hx : xs.Pairwise (· ≤ ·)) (hn : xs.length ≤ 1048576) (hc : xs.length ≤ c) :
    Calls Tryz.prog 127 #[.slice (some ⟨g, 0, none⟩) xs.length c] w fun e w' => ∃ ds : List Nat, e = .returned (.slice (some ⟨g, 0, none⟩) ds.length c) ∧ ds.Pairwise (· < ·) ∧ (∀ a, a ∈ ds ↔ a ∈ xs) ∧ ds.length ≤ xs.length ∧ RowL w' g (ds ++ List.replicate (xs.length - ds.length) 0) ∧ Kept (fun k => k = g) w w' := by
  obtain ⟨ds, e1, e2, e3, e4⟩ := compact_rising hx
  have C := sCompact0 g c (xs.map Int.ofNat).toArray w h.holds (by simp; omega) (by simpa using hc)
  have hs : (xs.map Int.ofNat).toArray.size = xs.length := by simp
  rw [e1, hs] at C
  refine C.mono ?_
  rintro e w' ⟨rfl, q, rfl⟩
  have hp := h.put (ys := ds ++ List.replicate (xs.length - ds.length) 0) (by simp; omega) q
  have e5 : (ds ++ List.replicate (xs.length - ds.length) 0).map Int.ofNat = ds.map Int.ofNat ++ List.replicate (xs.length - (ds.map Int.ofNat).length) 0 := by simp
  rw [e5] at hp
  exact ⟨ds, by simp, e2, e3, e4, hp.1, hp.2⟩

end Go.Proofs.YtlehlgipbhfioaaGreat
namespace Go.Proofs.YtlehlgipbhfioaaGreat
open Go.RowKit Go.Maps
set_option maxRecDepth 100000 in
set_option maxHeartbeats 1000000 in
theorem litsOf_in (w : World) (ca : Option Addr) (cs : List Int) (cc : Nat) (hcs : ClsAt w ca cs) (hb : ∀ x ∈ cs, x ≠ 0 ∧ x.natAbs ≤ 2000) (hN : cs.length ≤ 12 ∨ (cs.length ≤ 1000 ∧ ∃ m r, cs.map litN = m :: r ∧ r.Pairwise (· < ·) ∧ ∀ x ∈ r, x < m)) :
    Calls Tryz.prog 85 #[.slice ca cs.length cc] w fun e w' => ∃ g c, e = .returned (.slice (some ⟨g, 0, none⟩) (litsN cs).length c) ∧ w.heap.size ≤ g ∧ (litsN cs).length ≤ c ∧ RowL w' g (litsN cs ++ List.replicate (c - (litsN cs).length) 0) ∧ Below w.heap.size w w' := by
  have HN : Hid _ := hN
  have hn : cs.length ≤ 1000 := by
    rcases hN with h | h
    · omega
    · exact h.1
  clear hN
  have m1 : ∀ W : World, _ := fun W => make_lits W cs.length (by omega)
  have hcell : Hid (∀ W : World, Below w.heap.size w W → ∀ (j : Nat) (x : Int), cs[j]? = some x → ∃ b off, ca = some ⟨b, off, none⟩ ∧ W.cell? ⟨b, off + j, none⟩ = some (.int .i64 x)) := fun W hB j x hx => by
    rcases hcs.below hB with e | ⟨b, off, h1, h2⟩
    · rw [e] at hx; simp at hx
    · exact ⟨b, off, h1, h2 j x hx⟩
  have HB : Hid _ := hb
  clear hcs hb
  generalize hln : cs.length = n at *
  have HLN : Hid _ := hln
  clear hln
  go_enter Tryz.func85, Tryz.ntmps85
  go_wp2_with fail
  have V0 : Hid (RowL (w.alloc (Obj.cells (Array.replicate n (Value.int .i32 0)) 192)) w.heap.size ((cs.take 0).map litN ++ List.replicate (n - 0) 0) ∧ Below w.heap.size w (w.alloc (Obj.cells (Array.replicate n (Value.int .i32 0)) 192))) := by
    refine ⟨?_, (Below.refl _ _).alloc (Nat.le_refl _) _⟩
    unfold RowL
    rw [heap_alloc_new]
    simp [i32]
  generalize (w.alloc (Obj.cells (Array.replicate n (Value.int .i32 0)) 192)) = w1 at *
  obtain ⟨g, hg⟩ : ∃ g, w.heap.size = g := ⟨_, rfl⟩
  have hcell := hcell.out
  have V0 := V0.out
  rw [hg] at hcell V0 ⊢
  have HC : Hid _ := hcell
  have HV0 : Hid _ := V0
  have HG : Hid _ := hg
  clear hcell V0 hg m1
  go_loopw [11] (fun t11 W => ∃ i : Nat, i ≤ n ∧ t11 = .int .i64 (i : Int) ∧ Hid (RowL W g ((cs.take i).map litN ++ List.replicate (n - i) 0) ∧ Below g w W)) (fun t11 _ => n - (intOf t11).toNat)
  case atStart => exact ⟨0, Nat.zero_le _, rfl, HV0⟩
  case round =>
    obtain ⟨i, hi, rfl, HV⟩ := hrel
    by_cases hlt : i < n
    · have di : decide ((i : Int) < (n : Int)) = true := decide_eq_true (cast_lt hlt)
      have hic : i < cs.length := by rw [HLN.out]; exact hlt
      obtain ⟨b, off, hca, hc⟩ := HC.out wr HV.out.2 i _ (List.getElem?_eq_getElem hic)
      have hxb := HB.out _ (List.getElem_mem hic)
      have LI := litOf_in wr cs[i] (by omega) (by omega)
      have hlen : ((cs.take i).map litN ++ List.replicate (n - i) 0).length = n := by simp [HLN.out]; omega
      have q1 := HV.out.1.cell (i := i) (List.getElem?_eq_getElem (by rw [hlen]; exact hlt))
      have q2 := HV.out.1.frozen i
      have hwrap := wrap_nat1 (a := i) (by omega)
      have dn := cast_lt hlt
      have hset : Hid (((cs.take i).map litN ++ List.replicate (n - i) 0).set i (litN cs[i]) = (cs.take (i + 1)).map litN ++ List.replicate (n - (i + 1)) 0) := by
        show _ = _
        have e : n - i = (n - (i + 1)) + 1 := by omega
        have hA : ((cs.take i).map litN).length = i := by simp; omega
        rw [List.set_append_right _ _ (by rw [hA]; exact Nat.le_refl _), hA, Nat.sub_self, e, List.replicate_succ, List.set_cons_zero, List.take_add_one, List.getElem?_eq_getElem hic, Option.toList_some, List.map_append, List.append_assoc]
        rfl
      subst hca
      generalize cs[i] = x at *
      generalize (((cs.take i).map litN ++ List.replicate (n - i) 0)[i]'(by rw [hlen]; exact hlt)) = y at *
      clear HV0 hlen
      go_wp2_with (first | (go_at_call 87; refine LI.mono ?_; rintro e w3 ⟨rfl, rfl⟩))
      refine ⟨⟨i + 1, by omega, by simp, ?_, HV.out.2.setCell (p := ⟨g, i, none⟩) (Nat.le_refl _) _⟩, by simp [intOf]; omega⟩
      rw [← hset.out]
      exact HV.out.1.set i (litN x)
    · have di : decide ((i : Int) < (n : Int)) = false := decide_eq_false (by omega)
      have hie : i = n := by omega
      have hrow : RowL wr g (cs.map litN) := by
        have := HV.out.1
        rw [hie, Nat.sub_self, ← HLN.out, List.take_length] at this
        simpa using this
      have hml : (cs.map litN).length = n := by simp [HLN.out]
      have SO := sSort2_in wr g (cs.map litN) n hrow (by rw [hml]; exact HN.out) (by omega)
      rw [hml] at SO
      clear HV0 hrow
      go_wp2_with (first | (go_at_call 126; refine SO.mono ?_; rintro e w3 ⟨rfl, ys, r1, r2, r3, r4⟩; refine Aside.out ?_))
      delta Aside
      have hyl : ys.length = n := by rw [r2.length_eq, hml]
      have CO := sCompact_in w3 g ys n r1 r3 (by omega) (by omega)
      rw [hyl] at CO
      have HR : Hid _ := r2
      have HK : Hid _ := r4
      clear SO r1 r2 r3 r4
      apply_assumption
      go_wp2_with (first | (go_at_call 127; refine CO.mono ?_; rintro e w4 ⟨ds, rfl, e2, e3, e4, e5, e6⟩))
      go_ret
      have hds : ds = litsN cs := rising_eq e2 (litsN_sorted cs) (fun a => by
        rw [e3, HR.out.mem_iff, mem_litsN, List.mem_map])
      rw [← hds]
      refine ⟨g, n, rfl, Nat.le_of_eq HG.out, by omega, e5, ?_⟩
      have k1 := HK.out
      have hgw : g ≤ wr.heap.size := by rw [← HG.out]; exact HV.out.2.size
      rw [HG.out]
      exact HV.out.2.trans ⟨e6.os.trans k1.os, e6.tape.trans k1.tape, e6.output.trans k1.output, Nat.le_trans k1.size e6.size, fun k hk => (e6.block k (Nat.lt_of_lt_of_le (Nat.lt_of_lt_of_le hk hgw) k1.size) (by omega)).trans (k1.block k (Nat.lt_of_lt_of_le hk hgw) (by omega))⟩

end Go.Proofs.YtlehlgipbhfioaaGreat

namespace Go.Proofs.YtlehlgipbhfioaaGreat
open Go.RowKit Go.Maps

theorem wrap_nat8 {a : Nat} (h : a ≤ 100000000) : IntKind.i64.wrap ((a : Int) + 1) = (a : Int) + 1 := by rw [IntKind.wrap_i64]; omega
/-- Clauses in memory. -/
def CssAt (W : World) (ca : Option Addr) (css : List (List Int)) : Prop :=
  css = [] ∨ ∃ b off, ca = some ⟨b, off, none⟩ ∧ ∀ (i : Nat) (cs : List Int), css[i]? = some cs → ∃ ra rc, W.cell? ⟨b, off + i, none⟩ = some (.slice ra cs.length rc) ∧ ClsAt W ra cs
theorem CssAt.below {w w' : World} {ca : Option Addr} {css : List (List Int)} (hB : Below w.heap.size w w') (h : CssAt w ca css) : CssAt w' ca css := by
  rcases h with e | ⟨b, off, h1, h2⟩
  · exact Or.inl e
  · refine Or.inr ⟨b, off, h1, fun i cs hi => ?_⟩
    obtain ⟨ra, rc, h3, h4⟩ := h2 i cs hi
    exact ⟨ra, rc, (hB.cell (World.block_lt_of_cell? w _ h3)).trans h3, h4.below hB⟩
theorem CssAt.drew {w : World} {ca : Option Addr} {css : List (List Int)} (h : CssAt w ca css) (m : Nat) : CssAt (w.drewN m) ca css := h
theorem CssAt.at {W : World} {ca : Option Addr} {css : List (List Int)} (h : CssAt W ca css) {i : Nat} {cs : List Int} (hi : css[i]? = some cs) : ∃ b off ra rc, ca = some ⟨b, off, none⟩ ∧ W.cell? ⟨b, off + i, none⟩ = some (.slice ra cs.length rc) ∧ ClsAt W ra cs := by
  rcases h with e | ⟨b, off, h1, h2⟩
  · rw [e] at hi; simp at hi
  · obtain ⟨ra, rc, h3, h4⟩ := h2 i cs hi
    exact ⟨b, off, ra, rc, h1, h3, h4⟩
theorem ClsAt.at {W : World} {ca : Option Addr} {cs : List Int} (h : ClsAt W ca cs) {i : Nat} {x : Int} (hi : cs[i]? = some x) : ∃ b off, ca = some ⟨b, off, none⟩ ∧ W.cell? ⟨b, off + i, none⟩ = some (.int .i64 x) := by
  rcases h with e | ⟨b, off, h1, h2⟩
  · rw [e] at hi; simp at hi
  · exact ⟨b, off, h1, h2 i x hi⟩

set_option maxRecDepth 100000 in
set_option maxHeartbeats 1000000 in
theorem sCheck_in (w : World) (n : Nat) (hn : n ≤ 2000) (ca : Option Addr) (css : List (List Int)) (cc : Nat) (h : CssAt w ca css) (hcl : css.length ≤ 100000000) (hb : ∀ cs ∈ css, cs.length ≤ 1048576 ∧ ∀ x ∈ cs, x ≠ 0 ∧ x.natAbs ≤ n) :
    Calls Tryz.prog 82 #[.int .i64 (n : Int), .slice ca css.length cc] w fun e w' => e = .returned (.int .i64 0) ∧ ∃ m, w' = w.drewN m := by
  have HC : Hid _ := h
  have HB : Hid _ := hb
  clear h hb
  have d0 : decide ((n : Int) < 0) = false := decide_eq_false (by omega)
  have d1 : decide ((n : Int) > 2000) = false := decide_eq_false (by omega)
  generalize hln : css.length = N at *
  have HLN : Hid _ := hln
  clear hln
  go_enter Tryz.func82, Tryz.ntmps82
  go_wp2_with fail
  have hneg1 : IntKind.i64.wrap (-(n : Int)) = -(n : Int) := by rw [IntKind.wrap_i64]; omega
  have hneg2 : wrap64 (-(n : Int)) = -(n : Int) := by unfold wrap64; omega
  go_loopw [17] (fun t17 W => ∃ i m : Nat, i ≤ N ∧ t17 = .int .i64 (i : Int) ∧ W = w.drewN m) (fun t17 _ => N - (intOf t17).toNat)
  case atStart => exact ⟨0, 0, Nat.zero_le _, rfl, rfl⟩
  case round =>
    obtain ⟨i, m, hi, rfl, rfl⟩ := hrel
    by_cases hlt : i < N
    · have di : decide ((i : Int) < (N : Int)) = true := decide_eq_true (cast_lt hlt)
      have dn := cast_lt hlt
      have hwrap := wrap_nat8 (a := i) (Nat.le_trans hi hcl)
      have hic : i < css.length := by rw [HLN.out]; exact hlt
      obtain ⟨b, off, ra, rc, hca, hc, hcs⟩ := CssAt.at (W := w) (ca := ca) HC.out (List.getElem?_eq_getElem hic)
      have hxb := HB.out _ (List.getElem_mem hic)
      have HCS : Hid _ := hcs
      have HX : Hid _ := hxb
      subst hca
      clear hcs hxb
      generalize css[i] = cs at *
      generalize hL : cs.length = L at *
      have hLl : L ≤ 1048576 := hL ▸ HX.out.1
      have HL : Hid _ := hL
      clear hL
      obtain ⟨w0, hw0⟩ : ∃ w0, w0 = w.drewN m := ⟨_, rfl⟩
      have hc' : (w.drewN m).cell? ⟨b, off + i, none⟩ = some (.slice ra L rc) := hc
      have HCS2 : Hid (ClsAt (w.drewN m) ra cs) := HCS.out
      clear hc HCS hw0 w0
      go_wp2_with fail
      go_loopw [23] (fun t23 W => ∃ j m2 : Nat, j ≤ L ∧ t23 = .int .i64 (j : Int) ∧ W = w.drewN m2) (fun t23 _ => L - (intOf t23).toNat)
      case atStart => exact ⟨0, m, Nat.zero_le _, rfl, rfl⟩
      case round =>
        obtain ⟨j, m2, hj, rfl, rfl⟩ := hrel
        by_cases hjl : j < L
        · have dj : decide ((j : Int) < (L : Int)) = true := decide_eq_true (cast_lt hjl)
          have djn := cast_lt hjl
          have hwrapj := wrap_nat1 (a := j) (Nat.le_trans hj hLl)
          have hjc : j < cs.length := by rw [HL.out]; exact hjl
          obtain ⟨b2, off2, hra, hx⟩ := ClsAt.at HCS2.out (List.getElem?_eq_getElem hjc)
          have hxx := HX.out.2 _ (List.getElem_mem hjc)
          subst hra
          have hx' : (w.drewN m2).cell? ⟨b2, off2 + j, none⟩ = some (.int .i64 cs[j]) := hx
          generalize cs[j] = x at *
          have q1 : (x == 0) = false := by simpa using hxx.1
          have q2 : decide (x > (n : Int)) = false := decide_eq_false (by omega)
          have q3 : decide (x < -(n : Int)) = false := decide_eq_false (by omega)
          have q4 : decide ((n : Int) < x) = false := decide_eq_false (by omega)
          clear hx hxx hc'
          go_wp2_with fail
          exact ⟨⟨j + 1, m2, by omega, by simp, rfl⟩, by simp [intOf]; omega⟩
        · have dj : decide ((j : Int) < (L : Int)) = false := decide_eq_false (by omega)
          clear hc'
          go_wp2_with fail
          exact ⟨⟨i + 1, m2, by omega, by simp, rfl⟩, by simp [intOf]; omega⟩
    · have di : decide ((i : Int) < (N : Int)) = false := decide_eq_false (by omega)
      go_wp2_with fail
      go_ret
      exact ⟨rfl, _, rfl⟩


/-- A clause more lies in memory. -/
def Ad.clause (A : Ad) (c cb g : Nat) (sp : List Value) : Ad := { A with blk := fun r => if r = .clause c then some cb else if r = .crow c then some g else A.blk r, sp := fun r => if r = .crow c then sp else if r = .clause c then [] else A.sp r }

theorem watC_congr {A A' : Ad} : ∀ {L : List (Nat × Nat)}, (∀ p ∈ L, A'.ptr (.clause p.1) = A.ptr (.clause p.1)) → watC A' L = watC A L
  | [], _ => rfl
  | p :: L, h => by
    have ih := watC_congr (A := A) (A' := A') (L := L) (fun q hq => h q (by simp [hq]))
    unfold watC at ih ⊢
    rw [List.flatMap_cons, List.flatMap_cons, ih, h p (by simp)]

theorem Mem.newClause {W : World} {A : Ad} {s : Sv} (h : Mem W A s) (hF : Fit s) {W' : World} {cb g : Nat} {ls : List Nat} {sp : List Value} (hk : ∀ k, A.Foot k → W'.heap[k]? = W.heap[k]?) (hcb : ¬ A.Foot cb) (hg : ¬ A.Foot g) (hne : cb ≠ g)
    (hrow : W'.heap[g]? = some (.cells (ls.map i32 ++ sp).toArray 192)) (hcl : W'.heap[cb]? = some (.cells #[.slice (some ⟨g, 0, none⟩) ls.length (ls.length + sp.length), .int .i64 0, .slice none 0 0, .int .i64 0, .bool false, .bool false] 182)) :
    Mem W' (A.clause s.cl.length cb g sp) (s.more ls) := by
  obtain ⟨c, hc⟩ : ∃ c, c = s.cl.length := ⟨_, rfl⟩
  rw [← hc]
  have hn1 : A.blk (.clause c) = none := by
    cases e : A.blk (.clause c) with
    | none => rfl
    | some b => have := (h.cls c).1 ⟨b, e⟩; omega
  have hn2 : A.blk (.crow c) = none := by
    cases e : A.blk (.crow c) with
    | none => rfl
    | some b => have := (h.rows c).1 ⟨b, e⟩; omega
  have hold : ∀ r, r ≠ .clause c → r ≠ .crow c → (A.clause c cb g sp).blk r = A.blk r ∧ (A.clause c cb g sp).sp r = A.sp r := fun r h1 h2 => ⟨(if_neg h1).trans (if_neg h2), (if_neg h2).trans (if_neg h1)⟩
  have hb1 : (A.clause c cb g sp).blk (.clause c) = some cb := by simp [Ad.clause]
  have hb2 : (A.clause c cb g sp).blk (.crow c) = some g := by simp [Ad.clause]
  have hs2 : (A.clause c cb g sp).sp (.crow c) = sp := by simp [Ad.clause]
  have hslv : ∀ r k z, r ≠ .clause c → r ≠ .crow c → (A.clause c cb g sp).slv r k z = A.slv r k z := fun r k z h1 h2 => by unfold Ad.slv; rw [(hold r h1 h2).1, (hold r h1 h2).2]
  have hlits : ∀ d, (s.more ls).lits d = if d = c then ls else s.lits d := fun d => by rw [hc]; exact lits_more s ls d
  have hwc : ∀ l, watC (A.clause c cb g sp) (s.wat l) = watC A (s.wat l) := fun l => watC_congr (fun p hp => by
    have hlt := (hF.wat l p hp).1
    unfold Ad.ptr
    rw [(hold (.clause p.1) (by intro e; cases e; omega) (by intro e; cases e)).1])
  have hcell : ∀ r, r ≠ .clause c → r ≠ .crow c → cellsR (A.clause c cb g sp) (s.more ls) r = cellsR A s r := by
    intro r h1 h2
    cases r
    case clause d =>
      have hd : d ≠ c := fun e => h1 (by rw [e])
      simp only [cellsR]
      rw [hlits, if_neg hd, hslv _ _ _ (by intro e; cases e) (by intro e; cases e; exact hd rfl)]
    case crow d =>
      have hd : d ≠ c := fun e => h2 (by rw [e])
      simp only [cellsR]
      rw [hlits, if_neg hd, (hold _ h1 h2).2]
    case win l =>
      have : (s.more ls).wat l = s.wat l := rfl
      simp only [cellsR, this, hwc, (hold _ h1 h2).2]
    case wout =>
      simp only [cellsR]
      show s.ws.mapIdx _ = _
      congr 1
    all_goals simp only [cellsR, searchC]
    all_goals first | rfl | skip
    all_goals simp [hslv, hold, Ad.ptr, Sv.more]
  refine ⟨fun r r' b h1 h2 => ?_, fun r b hb => ?_, fun r hr => ?_, fun d => ?_, fun d => ?_, fun l e => ?_, fun e => ?_, fun e => ?_, fun r hr => ?_, fun r hr => ?_, ?_, h.lv, h.lw, h.ls, h.lp, h.small, h.endk⟩
  · have key : ∀ r b, (A.clause c cb g sp).blk r = some b → (r = .clause c ∧ b = cb) ∨ (r = .crow c ∧ b = g) ∨ (A.blk r = some b) := fun r b hb => by
      by_cases e1 : r = .clause c
      · rw [e1, hb1] at hb; cases hb; exact Or.inl ⟨e1, rfl⟩
      · by_cases e2 : r = .crow c
        · rw [e2, hb2] at hb; cases hb; exact Or.inr (Or.inl ⟨e2, rfl⟩)
        · rw [(hold r e1 e2).1] at hb; exact Or.inr (Or.inr hb)
    rcases key r b h1 with ⟨p1, p2⟩ | ⟨p1, p2⟩ | p1 <;> rcases key r' b h2 with ⟨q1, q2⟩ | ⟨q1, q2⟩ | q1
    · rw [p1, q1]
    · exact absurd (p2.symm.trans q2) hne
    · exact absurd ⟨r', p2 ▸ q1⟩ hcb
    · exact absurd (q2.symm.trans p2) hne
    · rw [p1, q1]
    · exact absurd ⟨r', p2 ▸ q1⟩ hg
    · exact absurd ⟨r, q2 ▸ p1⟩ hcb
    · exact absurd ⟨r, q2 ▸ p1⟩ hg
    · exact h.inj _ _ _ p1 q1
  · by_cases e1 : r = .clause c
    · subst e1
      rw [hb1] at hb
      cases hb
      rw [hcl]
      simp only [cellsR, tyR]
      rw [hlits, if_pos rfl]
      simp [Ad.slv, hb2, hs2]
    · by_cases e2 : r = .crow c
      · subst e2
        rw [hb2] at hb
        cases hb
        rw [hrow]
        simp only [cellsR, tyR]
        rw [hlits, if_pos rfl, hs2]
      · rw [(hold r e1 e2).1] at hb
        rw [hcell r e1 e2, hk b ⟨r, hb⟩]
        exact h.has r b hb
  · rw [(hold r (by rintro rfl; cases hr) (by rintro rfl; cases hr)).1]; exact h.fix r hr
  · show _ ↔ d < (s.cl ++ [ls]).length
    by_cases e : d = c
    · exact ⟨fun _ => by rw [e, hc]; simp, fun _ => ⟨cb, by rw [e]; exact hb1⟩⟩
    · rw [(hold (.clause d) (by intro e2; cases e2; exact e rfl) (by intro e2; cases e2)).1, h.cls d]
      simp; omega
  · show _ ↔ d < (s.cl ++ [ls]).length
    by_cases e : d = c
    · exact ⟨fun _ => by rw [e, hc]; simp, fun _ => ⟨g, by rw [e]; exact hb2⟩⟩
    · rw [(hold (.crow d) (by intro e2; cases e2) (by intro e2; cases e2; exact e rfl)).1, h.rows d]
      simp; omega
  · rw [(hold (.win l) (by intro e2; cases e2) (by intro e2; cases e2)).1] at e; exact h.win l e
  · rw [(hold .trail (by intro e2; cases e2) (by intro e2; cases e2)).1] at e; exact h.nil1 e
  · rw [(hold .starts (by intro e2; cases e2) (by intro e2; cases e2)).1] at e; exact h.nil2 e
  · rw [(hold r (by rintro rfl; cases hr) (by rintro rfl; cases hr)).2]; exact h.even r hr
  · rw [(hold r (by rintro rfl; cases hr) (by rintro rfl; cases hr)).2]
    have := h.caps r hr
    cases r <;> first | exact this | cases hr
  · have hf := h.flat
    refine ⟨?_, ?_, ?_, ?_, ?_, ?_, ?_, ?_, ?_⟩
    all_goals rw [(hold _ (by intro e; cases e) (by intro e; cases e)).2]
    · exact hf.1
    · exact hf.2.1
    · exact hf.2.2.1
    · exact hf.2.2.2.1
    · exact hf.2.2.2.2.1
    · exact hf.2.2.2.2.2.1
    · exact hf.2.2.2.2.2.2.1
    · exact hf.2.2.2.2.2.2.2.1
    · exact hf.2.2.2.2.2.2.2.2

end Go.Proofs.YtlehlgipbhfioaaGreat

namespace Go.Proofs.YtlehlgipbhfioaaGreat
open Go.RowKit Go.Maps

set_option maxRecDepth 100000 in
set_option maxHeartbeats 400000 in
theorem below_in (w : World) (a b : Int) : Calls Tryz.prog 116 #[.int .i64 a, .int .i64 b] w fun e w' => e = .returned (.bool (decide (0 ≤ a ∧ a < b))) ∧ w = w' := by
  by_cases h0 : 0 ≤ a
  · have d0 : decide (0 ≤ a) = true := decide_eq_true h0
    go_enter Tryz.func116, Tryz.ntmps116
    go_wp2_with fail
    go_ret
    exact ⟨by simp [h0], rfl⟩
  · have d0 : decide (0 ≤ a) = false := decide_eq_false h0
    go_enter Tryz.func116, Tryz.ntmps116
    go_wp2_with fail
    go_ret
    exact ⟨by simp, rfl⟩

set_option maxRecDepth 100000 in
set_option maxHeartbeats 400000 in
theorem ordered_in (w : World) (a b : Nat) : Calls Tryz.prog 79 #[.int .i64 (a : Int), .int .i64 (b : Int)] w fun e w' => e = .returned (.agg #[.int .i64 (min (a : Int) (b : Int)), .int .i64 (max (a : Int) (b : Int))]) ∧ w' = w.alloc (.cells #[.int .i64 (min (a : Int) (b : Int)), .int .i64 (max (a : Int) (b : Int))] 34) := by
  go_enter Tryz.func79, Tryz.ntmps79
  go_wp2_with fail
  exact ⟨rfl, .agg #[.int .i64 (min (a : Int) (b : Int)), .int .i64 (max (a : Int) (b : Int))], by simp [results, Tryz.results79, go_sem], rfl, rfl⟩

end Go.Proofs.YtlehlgipbhfioaaGreat

namespace Go.Proofs.YtlehlgipbhfioaaGreat
open Go.RowKit Go.Maps

theorem add_add2 (s : Sv) (ls : List Nat) : (s.more ls).add2 s.cl.length = s.add ls := by
  have e : (s.more ls).lits s.cl.length = ls := by rw [lits_more, if_pos rfl]
  unfold Sv.add2
  rw [e]
  match ls with
  | [] => rfl
  | [_] => rfl
  | _ :: _ :: _ => rfl

/-- The search when i clauses were taken in. -/
def takenN (n : Nat) (css : List (List Int)) (i : Nat) : Sv := (css.take i).foldl (fun s c => s.add (litsN c)) (Sv.new n)
theorem takenN_succ {n : Nat} {css : List (List Int)} {i : Nat} {c : List Int} (h : css[i]? = some c) : takenN n css (i + 1) = (takenN n css i).add (litsN c) := by
  unfold takenN
  rw [List.take_add_one, h]
  simp [List.foldl_append]
theorem takenN_ok {n : Nat} {css : List (List Int)} (hb : ∀ cs ∈ css, ∀ x ∈ cs, x.natAbs ≤ n) : ∀ i, i ≤ css.length → Taken (takenN n css i) n ((css.take i).map litsN)
  | 0, _ => by simpa [takenN] using Taken.new n
  | i + 1, hi => by
    have hic : i < css.length := by omega
    have h := takenN_ok hb i (by omega)
    have e := List.getElem?_eq_getElem hic
    rw [takenN_succ e, List.take_add_one, e, Option.toList_some, List.map_append]
    exact h.add (litsN_nodup css[i]) (litsN_lt (hb _ (List.getElem_mem hic)))

/-- What Solve's loop keeps. -/
def Slv (w W : World) (n : Nat) (css : List (List Int)) (sb i : Nat) : Prop :=
  ∃ A : Ad, A.blk .search = some sb ∧ Mem W A (takenN n css i) ∧ (∀ k, A.Foot k → w.heap.size ≤ k) ∧ Below w.heap.size w W

theorem pop_n (s : Sv) : s.pop.2.n = s.n := by unfold Sv.pop; split <;> rfl
theorem tryN_n : ∀ (f : Nat) (s : Sv) (b : Bool) (s' : Sv), Sv.tryN f s = some (b, s') → s'.n = s.n
  | 0, _, _, _, h => by cases h
  | f + 1, s, b, s', h => by
    have hp := pop_n s
    rw [tryN_R] at h
    generalize s.pop.1 = o at *
    generalize s.pop.2 = s1 at *
    cases o with
    | none =>
      simp only [tryR, Option.some.injEq, Prod.mk.injEq] at h
      rw [← h.2]; exact hp
    | some v =>
      simp only [tryR] at h
      split at h
      · simp only [Option.some.injEq, Prod.mk.injEq] at h
        rw [← h.2]; exact hp
      · exact (tryN_n f s1 b s' h).trans hp
theorem run_n : ∀ (f : Nat) (s : Sv) (b : Bool) (s' : Sv), Sv.run f s = some (b, s') → s'.n = s.n
  | 0, _, _, _, h => by cases h
  | f + 1, s, b, s', h => by
    rw [Sv.run] at h
    split at h
    · cases h; rfl
    · cases hfo : Sv.follow (2 * s.n + 3) s with
      | none => rw [hfo] at h; cases h
      | some os =>
        obtain ⟨o, s1⟩ := os
        have g1 := (follow_sim _ _ _ _ hfo).1
        rw [hfo] at h
        cases o with
        | some c =>
          simp only at h
          split at h
          · exact (run_n f _ b s' h).trans g1
          · cases h
        | none =>
          simp only at h
          cases htr : Sv.tryN (s1.hp.length + 1) s1 with
          | none => rw [htr] at h; cases h
          | some bs =>
            obtain ⟨tb, s2⟩ := bs
            have g2 := tryN_n _ _ _ _ htr
            rw [htr] at h
            cases tb with
            | false => simp only [Option.some.injEq, Prod.mk.injEq] at h; rw [← h.2]; exact g2.trans g1
            | true => exact (run_n f s2 b s' h).trans (g2.trans g1)

/-- What Solve answers. -/
def SolvePost (w : World) (n : Nat) (r : Option (List Bool)) (e : Ending) (w' : World) : Prop :=
  Below w.heap.size w w' ∧ (r = none → e = .returned (.tuple #[.slice none 0 0, .bool false, .int .i64 0])) ∧ ∀ vs, r = some vs → ∃ g, e = .returned (.tuple #[.slice (some ⟨g, 0, none⟩) n n, .bool true, .int .i64 0]) ∧ w.heap.size ≤ g ∧ w'.heap[g]? = some (.cells (vs.map Value.bool).toArray 4)
theorem solve_below {w W W' : World} {A A' : Ad} {s' : Sv} (hB : Below w.heap.size w W) (hF : ∀ k, A.Foot k → w.heap.size ≤ k) (S : Step W W' A A' s') : Below w.heap.size w W' := by
  have k6 := S.kept
  refine ⟨k6.os.trans hB.os, k6.tape.trans hB.tape, k6.output.trans hB.output, Nat.le_trans hB.size k6.size, fun k hk => ?_⟩
  exact (k6.block k (Nat.lt_of_lt_of_le hk hB.size) (fun hf => by have := hF k hf; omega)).trans (hB.block k hk)

set_option maxRecDepth 100000 in
set_option maxHeartbeats 1000000 in
theorem Solve_in (w : World) (n : Nat) (hn : n ≤ 2000) (ca : Option Addr) (css : List (List Int)) (cc : Nat) (h : CssAt w ca css) (hcl : css.length ≤ 100000000) (hb : ∀ cs ∈ css, (cs.length ≤ 12 ∨ (cs.length ≤ 1000 ∧ ∃ m r, cs.map litN = m :: r ∧ r.Pairwise (· < ·) ∧ ∀ x ∈ r, x < m)) ∧ ∀ x ∈ cs, x ≠ 0 ∧ x.natAbs ≤ n) (r : Option (List Bool)) (hr : solveN n css = some r) :
    Calls Tryz.prog 44 #[.int .i64 (n : Int), .slice ca css.length cc] w (SolvePost w n r) := by
  have CK := sCheck_in w n hn ca css cc h hcl (fun cs hcs => ⟨by rcases (hb cs hcs).1 with h | h; (· omega); (· have := h.1; omega), (hb cs hcs).2⟩)
  have NW := fun m => newSearch_in (w.drewN m) n hn
  have HC : Hid _ := h
  have HB : Hid _ := hb
  have HR : Hid _ := hr
  have HNW : Hid _ := NW
  clear h hb hr NW
  generalize hln : css.length = N at *
  have HLN : Hid _ := hln
  clear hln
  go_enter Tryz.func44, Tryz.ntmps44
  go_wp2_with (first | (go_at_call 82; refine CK.mono ?_; rintro e w2 ⟨rfl, m, rfl⟩) | (go_at_call 83; refine (HNW.out _).mono ?_; rintro e w3 ⟨sb, A, rfl, hsb, M3, F3, B3⟩; refine Aside.out ?_))
  delta Aside
  have V0 : Hid (Slv w w3 n css sb 0) := ⟨A, hsb, M3, F3, ⟨B3.os, B3.tape, B3.output, B3.size, B3.block⟩⟩
  clear M3 F3 B3 hsb CK
  apply_assumption
  go_wp2_with fail
  go_loopw [23] (fun t23 W => ∃ i : Nat, i ≤ N ∧ t23 = .int .i64 (i : Int) ∧ Hid (Slv w W n css sb i)) (fun t23 _ => N - (intOf t23).toNat)
  case atStart => exact ⟨0, Nat.zero_le _, rfl, V0⟩
  case round =>
    obtain ⟨i, hi, rfl, HV⟩ := hrel
    by_cases hlt : i < N
    · have di : decide ((i : Int) < (N : Int)) = true := decide_eq_true (cast_lt hlt)
      have dn := cast_lt hlt
      have hwrap := wrap_nat8 (a := i) (Nat.le_trans hi hcl)
      have hic : i < css.length := by rw [HLN.out]; exact hlt
      obtain ⟨A1, hsb1, M1, F1, B1⟩ := HV.out
      obtain ⟨b, off, ra, rc, hca, hc, hcs⟩ := CssAt.at (CssAt.below B1 HC.out) (List.getElem?_eq_getElem hic)
      have hxb := HB.out _ (List.getElem_mem hic)
      have hT := takenN_ok (n := n) (css := css) (fun cs hcs x hx => ((HB.out cs hcs).2 x hx).2) i (by omega)
      have hsucc := takenN_succ (n := n) (List.getElem?_eq_getElem hic)
      have LO := litsOf_in wr ra css[i] rc hcs (fun x hx => ⟨(hxb.2 x hx).1, Nat.le_trans (hxb.2 x hx).2 hn⟩) hxb.1
      have hFm := hT.fo.fit.more (litsN_nodup css[i]) (litsN_lt (n := (takenN n css i).n) (fun x hx => by rw [hT.nn]; exact (hxb.2 x hx).2))
      have hcll : (takenN n css i).cl.length = i := by rw [hT.cl]; simp; omega
      have hfit := hT.fo.fit
      have HM : Hid _ := M1
      have HF : Hid _ := F1
      have HBB : Hid _ := B1
      have HFM : Hid _ := hFm
      have HFT : Hid _ := hfit
      have HSU : Hid _ := hsucc
      have HCL : Hid _ := hcll
      subst hca
      clear M1 F1 B1 hcs hxb hT hFm hfit hsucc hcll V0
      generalize css[i] = cs at *
      generalize hL : cs.length = L at *
      clear hL
      go_wp2_with (first | (go_at_call 85; refine LO.mono ?_; rintro e w4 ⟨g, c, rfl, hg, hlc, hrow, B4⟩; refine Aside.out ?_))
      delta Aside
      generalize hlsz : takenN n css i = s at *
      have hfoot4 : ∀ k, A1.Foot k → k < wr.heap.size := fun k ⟨r, hr⟩ => HM.out.lt hr
      have hng : ¬ A1.Foot g := fun hf => by have := hfoot4 g hf; omega
      have hgl : g < w4.heap.size := (Array.getElem?_eq_some_iff.1 hrow).1
      have z4 := B4.size
      have hncb : ¬ A1.Foot w4.heap.size := fun hf => by have := hfoot4 _ hf; omega
      have MN := HM.out.newClause HFT.out (W' := w4.alloc (.cells #[.slice (some ⟨g, 0, none⟩) (litsN cs).length c, .int .i64 0, .slice none 0 0, .int .i64 0, .bool false, .bool false] 182)) (cb := w4.heap.size) (g := g) (ls := litsN cs) (sp := (List.replicate (c - (litsN cs).length) 0).map i32)
        (fun k hk => (Below.heap_alloc _ _ _ (by have := hfoot4 k hk; omega)).trans (B4.block k (hfoot4 k hk))) hncb hng (by omega)
        ((Below.heap_alloc _ _ _ hgl).trans (by unfold RowL at hrow; rw [List.map_append] at hrow; exact hrow)) (by
          rw [heap_alloc_new]
          simp only [List.length_map, List.length_replicate, Nat.add_sub_cancel' hlc])
      have hsbN : (A1.clause s.cl.length w4.heap.size g ((List.replicate (c - (litsN cs).length) 0).map i32)).blk .search = some sb := by simp [Ad.clause, hsb1]
      have hcbN : (A1.clause s.cl.length w4.heap.size g ((List.replicate (c - (litsN cs).length) 0).map i32)).blk (.clause s.cl.length) = some w4.heap.size := by simp [Ad.clause]
      have AD := sAddAll_in _ _ _ MN HFM.out sb hsbN s.cl.length w4.heap.size hcbN (by show (s.cl ++ [litsN cs]).length ≤ _; rw [List.length_append, HCL.out]; simp; omega)
      rw [add_add2, ← HSU.out] at AD
      have hfootN : ∀ k, (A1.clause s.cl.length w4.heap.size g ((List.replicate (c - (litsN cs).length) 0).map i32)).Foot k → w.heap.size ≤ k := fun k ⟨r, hr⟩ => by
        unfold Ad.clause at hr
        simp only at hr
        have z0 := HBB.out.size
        split at hr
        · cases hr; omega
        · split at hr
          · cases hr; omega
          · exact HF.out k ⟨r, hr⟩
      have HMN : Hid _ := MN
      have HFN : Hid _ := hfootN
      have HB4 : Hid _ := B4
      clear MN hfootN B4 hrow hfoot4 LO hng hncb hgl hcbN
      apply_assumption
      go_wp2_with (first | (go_at_call 84; refine AD.mono ?_; rintro e w6 ⟨rfl, A6, S6, hA6⟩))
      refine ⟨⟨i + 1, by omega, by simp, A6, (hA6 .search (by intro e; cases e) (by intro l e; cases e)).1.trans hsbN, S6.mem, fun k hk => ?_, ?_⟩, by simp [intOf]; omega⟩
      · rcases S6.new k hk with e | e
        · exact HFN.out k e
        · have z0 := HBB.out.size
          simp at e
          omega
      · have k6 := S6.kept
        have b4 := HB4.out
        have b1 := HBB.out
        have z1 := b1.size
        refine ⟨k6.os.trans (b4.os.trans b1.os), k6.tape.trans (b4.tape.trans b1.tape), k6.output.trans (b4.output.trans b1.output), ?_, fun k hk => ?_⟩
        · have := k6.size
          simp at this
          omega
        · refine (k6.block k (by simp; omega) (fun hf => by have := HFN.out k hf; omega)).trans ?_
          exact (Below.heap_alloc _ _ _ (by omega)).trans ((b4.block k (by omega)).trans (b1.block k hk))
    · have di : decide ((i : Int) < (N : Int)) = false := decide_eq_false (by omega)
      have hie : i = N := by omega
      obtain ⟨A1, hsb1, M1, F1, B1⟩ := HV.out
      have hT := takenN_ok (n := n) (css := css) (fun cs hcs x hx => ((HB.out cs hcs).2 x hx).2) i (by rw [HLN.out]; omega)
      have hall : takenN n css i = css.foldl (fun s c => s.add (litsN c)) (Sv.new n) := by unfold takenN; rw [hie, ← HLN.out, List.take_length]
      have hRn : Rn (takenN n css i) := ⟨hT.fo.fit, by rw [hT.hp, hT.nn]; intro v hv; simp at hv; omega, by rw [hT.hp]; simp, by rw [hT.hp, hT.starts]; simp; omega⟩
      have hcl2 : (takenN n css i).cl.length ≤ 4398046511100 := by rw [hT.cl]; simp; omega
      have hsol := HR.out
      unfold solveN at hsol
      rw [← hall] at hsol
      have hnn := hT.nn
      clear hT hall V0
      generalize takenN n css i = s at *
      cases hrun : Sv.run (n + 2) s with
      | none => rw [hrun] at hsol; cases hsol
      | some bs =>
        obtain ⟨b, s'⟩ := bs
        rw [hrun] at hsol
        have SO := solve_in wr A1 s M1 hRn sb hsb1 hcl2 (n + 2) b s' hrun
        have hrn : Hid (s'.n = s.n) := run_n _ _ _ _ hrun
        have HF : Hid _ := F1
        have HBB : Hid _ := B1
        cases b with
        | false =>
          simp only [Option.some.injEq] at hsol
          subst hsol
          clear M1 F1 B1 hRn hrun
          go_wp2_with (first | (go_at_call 86; refine SO.mono ?_; rintro e w6 ⟨rfl, A6, S6, hA6⟩))
          exact ⟨rfl, .tuple #[.slice none 0 0, .bool false, .int .i64 0], by simp [results, Tryz.results44], solve_below HBB.out HF.out S6, fun _ => rfl, fun vs e => (by cases e)⟩
        | true =>
          simp only [Option.some.injEq] at hsol
          obtain ⟨vb, hvb⟩ := M1.fix .vals rfl
          have HS : Hid _ := hsol
          clear hRn hrun M1 F1 B1 hsol
          have m1 : ∀ W : World, _ := fun W => make_boolsS W n (by omega)
          go_wp2_with (first | (go_at_call 86; refine SO.mono ?_; rintro e w6 ⟨rfl, A6, S6, hA6⟩))
          have hsb6 : A6.blk .search = some sb := (hA6 .search (by intro e; cases e) (by intro e; cases e) (by intro l e; cases e)).trans hsb1
          obtain ⟨vb6, hvb6⟩ := S6.mem.fix .vals rfl
          have B7 := (solve_below HBB.out HF.out S6).alloc (solve_below HBB.out HF.out S6).size (Obj.cells (Array.replicate n (Value.bool false)) 4)
          have M7 := S6.mem.alloc (Obj.cells (Array.replicate n (Value.bool false)) 4)
          have hg7 : (w6.alloc (Obj.cells (Array.replicate n (Value.bool false)) 4)).heap[w6.heap.size]? = some (.cells ((List.range 0).map (fun i => Value.bool (decide (s'.val (2 * (i + 1)) = 1))) ++ List.replicate (n - 0) (Value.bool false)).toArray 4) := by
            rw [heap_alloc_new]; simp
          have hnf : ¬ A6.Foot w6.heap.size := fun ⟨r, hr⟩ => by have := S6.mem.lt hr; omega
          have hge : w.heap.size ≤ w6.heap.size := (solve_below HBB.out HF.out S6).size
          clear SO m1 HF HBB S6 hA6
          generalize (w6.alloc (Obj.cells (Array.replicate n (Value.bool false)) 4)) = w7 at *
          generalize w6.heap.size = g at *
          have hn7 : s'.n = n := (hrn.out).trans hnn
          have c0 := M7.cell hsb6 (i := 0) rfl
          simp only [Ad.slv, hvb6, M7.flat.1, List.length_nil, Nat.zero_div, Nat.add_zero, hn7] at c0
          have HV7 : Hid (∀ l, l < 2 * n + 2 → w7.cell? ⟨vb6, l, none⟩ = some (.int .i8 (s'.val l))) := fun l hl => M7.vcell hvb6 (by rw [hn7]; exact hl)
          have HB7 : Hid _ := B7
          have gsb : sb ≠ g := fun e => hnf ⟨_, e ▸ hsb6⟩
          have gvb : vb6 ≠ g := fun e => hnf ⟨_, e ▸ hvb6⟩
          have HW0 : Hid ((∀ k, k ≠ g → w7.heap[k]? = w7.heap[k]?) ∧ w7.heap[g]? = some (.cells ((List.range 0).map (fun i => Value.bool (decide (s'.val (2 * (i + 1)) = 1))) ++ List.replicate (n - 0) (Value.bool false)).toArray 4) ∧ Kept (fun k => k = g) w7 w7) := ⟨fun _ _ => rfl, hg7, Kept.refl _ _⟩
          clear M7 B7 hg7 hnf
          go_loopw [41] (fun t41 W => ∃ i : Nat, i ≤ n ∧ t41 = .int .i64 (i : Int) ∧ Hid ((∀ k, k ≠ g → W.heap[k]? = w7.heap[k]?) ∧ W.heap[g]? = some (.cells ((List.range i).map (fun i => Value.bool (decide (s'.val (2 * (i + 1)) = 1))) ++ List.replicate (n - i) (Value.bool false)).toArray 4) ∧ Kept (fun k => k = g) w7 W)) (fun t41 _ => n - (intOf t41).toNat)
          case atStart => exact ⟨0, Nat.zero_le _, rfl, ⟨fun _ _ => rfl, HW0.out.2⟩⟩
          case round =>
            obtain ⟨j, hj, rfl, HJ⟩ := hrel
            by_cases hjn : j < n
            · have dj : decide ((j : Int) < (n : Int)) = true := decide_eq_true (cast_lt hjn)
              have djn := cast_lt hjn
              have hwj := wrap_nat1 (a := j) (by omega)
              obtain ⟨e1, e2, e3⟩ := HJ.out
              have c0' : wr.cell? ⟨sb, 0, none⟩ = _ := (World.cell?_of_block (a := ⟨sb, 0, none⟩) (e1 sb gsb)).trans c0
              have vj : wr.cell? ⟨vb6, 2 * (j + 1), none⟩ = _ := (World.cell?_of_block (a := ⟨vb6, 2 * (j + 1), none⟩) (e1 vb6 gvb)).trans (HV7.out (2 * (j + 1)) (by omega))
              have LI := fun W : World => litOf_in W ((j : Int) + 1) (by omega) (by omega)
              have hlj : litN ((j : Int) + 1) = 2 * (j + 1) := by unfold litN; split <;> omega
              rw [hlj] at LI
              have hlen : ((List.range j).map (fun i => Value.bool (decide (s'.val (2 * (i + 1)) = 1))) ++ List.replicate (n - j) (Value.bool false)).length = n := by simp; omega
              obtain ⟨v1, q1⟩ : ∃ v, wr.cell? ⟨g, j, none⟩ = some v := ⟨_, by simp only [World.cell?, e2]; rw [List.getElem?_toArray, List.getElem?_eq_getElem (by rw [hlen]; exact hjn)]; rfl⟩
              have f1 : wr.frozen? ⟨g, j, none⟩ = false := by simp only [World.frozen?, e2]; simp
              have dl : ((2 * (j + 1) : Nat) : Int) < 2 * (n : Int) + 2 := by omega
              have HST : Hid (∀ W : World, (∀ k, k ≠ g → W.heap[k]? = wr.heap[k]?) → W.cell? ⟨sb, 0, none⟩ = some (.slice (some ⟨vb6, 0, none⟩) (2 * n + 2) (2 * n + 2)) ∧ W.cell? ⟨vb6, 2 * (j + 1), none⟩ = some (.int .i8 (s'.val (2 * (j + 1))))) := fun W hW =>
                ⟨(World.cell?_of_block (a := ⟨sb, 0, none⟩) (hW sb gsb)).trans c0', (World.cell?_of_block (a := ⟨vb6, 2 * (j + 1), none⟩) (hW vb6 gvb)).trans vj⟩
              have HSET : Hid (((List.range j).map (fun i => Value.bool (decide (s'.val (2 * (i + 1)) = 1))) ++ List.replicate (n - j) (Value.bool false)).set j (Value.bool (decide (s'.val (2 * (j + 1)) = 1))) = (List.range (j + 1)).map (fun i => Value.bool (decide (s'.val (2 * (i + 1)) = 1))) ++ List.replicate (n - (j + 1)) (Value.bool false)) := range_set (fun i => Value.bool (decide (s'.val (2 * (i + 1)) = 1))) (Value.bool false) hjn
              clear e1 e2 e3 hlen c0 HW0 HV7
              obtain ⟨l2, hl2⟩ : ∃ l2, 2 * (j + 1) = l2 := ⟨_, rfl⟩
              rw [hl2] at HST vj LI dl
              have HL2 : Hid _ := hl2
              clear hl2
              go_wp2_with fail
              refine wp_region_noPanic ?_
              refine wp_region_held_drew (S := fun W => W.cell? ⟨sb, 0, none⟩ = some (.slice (some ⟨vb6, 0, none⟩) (2 * n + 2) (2 * n + 2)) ∧ W.cell? ⟨vb6, l2, none⟩ = some (.int .i8 (s'.val l2))) (by kernel_rfl) ?_ (fun hHeld => ?_)
              · (first | exact HST.out _ (fun k h1 => rfl) | exact HST.out _ (fun k h1 => Below.heap_setCell _ _ _ _ h1))
              refine wpAnyH_take (i := 0) (oi := _) (v := ?_) rfl (by kernel_rfl) (by kernel_rfl) (by kernel_rfl) (fun _ _ _ h => h) (Or.inl ⟨by rfl, ?_⟩) (by assumption) ?_
              rotate_left 1
              · intro w hSw; (try dsimp only at hSw); go_simp; (try with_reducible rfl)
              try simp only [Act.put, List.getElem_toArray, List.getElem_cons_zero, List.setIfInBounds_toArray, List.set_cons_zero, List.set_cons_succ]
              refine wpAnyH_take (i := 1) (oi := _) (v := ?_) rfl (by kernel_rfl) (by kernel_rfl) (by kernel_rfl) (fun _ _ _ h => h) (Or.inl ⟨by rfl, ?_⟩) (by assumption) ?_
              rotate_left 1
              · intro w hSw; (try dsimp only at hSw); go_simp; (try with_reducible rfl)
              try simp only [Act.put, List.getElem_toArray, List.getElem_cons_succ, List.getElem_cons_zero, List.setIfInBounds_toArray, List.set_cons_zero, List.set_cons_succ]
              refine wpAnyH_take (i := 2) (oi := _) (v := ?_) rfl (by kernel_rfl) (by kernel_rfl) (by kernel_rfl) (fun _ _ _ h => h) (Or.inl ⟨by rfl, ?_⟩) (by assumption) ?_
              rotate_left 1
              · intro w hSw; (try dsimp only at hSw); go_simp; (try with_reducible rfl)
              try simp only [Act.put, List.getElem_toArray, List.getElem_cons_succ, List.getElem_cons_zero, List.setIfInBounds_toArray, List.set_cons_zero, List.set_cons_succ]
              refine wpAnyH_take (i := 3) (oi := _) (v := ?_) rfl (by kernel_rfl) (by kernel_rfl) (by kernel_rfl) (fun _ _ _ h => h) (Or.inl ⟨by rfl, ?_⟩) (by assumption) ?_
              rotate_left 1
              · intro w hSw; (try dsimp only at hSw); go_simp; (try with_reducible rfl)
              try simp only [Act.put, List.getElem_toArray, List.getElem_cons_succ, List.getElem_cons_zero, List.setIfInBounds_toArray, List.set_cons_zero, List.set_cons_succ]
              refine wpAnyH_take (i := 4) (oi := _) (v := ?_) rfl (by kernel_rfl) (by kernel_rfl) (by kernel_rfl) (fun _ _ _ h => h) (Or.inl ⟨by rfl, ?_⟩) (by assumption) ?_
              rotate_left 1
              · intro w hSw; (try dsimp only at hSw); go_simp; (try with_reducible rfl)
              try simp only [Act.put, List.getElem_toArray, List.getElem_cons_succ, List.getElem_cons_zero, List.setIfInBounds_toArray, List.set_cons_zero, List.set_cons_succ]
              refine wpAnyH_take (i := 5) (oi := _) (v := ?_) rfl (by kernel_rfl) (by kernel_rfl) (by kernel_rfl) (fun _ _ _ h => h) (Or.inl ⟨by rfl, ?_⟩) (by assumption) ?_
              rotate_left 1
              · intro w hSw; (try dsimp only at hSw); go_simp; (try with_reducible rfl)
              try simp only [Act.put, List.getElem_toArray, List.getElem_cons_succ, List.getElem_cons_zero, List.setIfInBounds_toArray, List.set_cons_zero, List.set_cons_succ]
              refine wpAnyH_take (i := 6) (oi := _) (v := ?_) rfl (by kernel_rfl) (by kernel_rfl) (by kernel_rfl) (fun _ _ _ h => h) (Or.inl ⟨by rfl, ?_⟩) (by assumption) ?_
              rotate_left 1
              · intro w hSw; (try dsimp only at hSw); go_simp; (try with_reducible rfl)
              try simp only [Act.put, List.getElem_toArray, List.getElem_cons_succ, List.getElem_cons_zero, List.setIfInBounds_toArray, List.set_cons_zero, List.set_cons_succ]
              refine wpAnyH_take (i := 7) (oi := _) (v := ?_) rfl (by kernel_rfl) (by kernel_rfl) (by kernel_rfl) (fun _ _ _ h => h) (Or.inl ⟨by rfl, ?_⟩) (by assumption) ?_
              rotate_left 1
              · intro w hSw; (try dsimp only at hSw); go_simp; (try with_reducible rfl)
              try simp only [Act.put, List.getElem_toArray, List.getElem_cons_succ, List.getElem_cons_zero, List.setIfInBounds_toArray, List.set_cons_zero, List.set_cons_succ]
              refine wpAnyH_ready (rs := [8]) (by kernel_rfl) (by simp) ?_
              refine AllReadyH.cons rfl (fun K hK => ?_) AllReadyH.nil
              try simp only [List.getElem_toArray, List.getElem_cons_succ, List.getElem_cons_zero]
              go_simp
              go_at_call 87
              refine (LI _).mono ?_
              rintro e w3 ⟨rfl, rfl⟩
              refine hK.out _ _ ?_ (fun hHeld => ?_)
              · (first | exact HST.out _ (fun k h1 => rfl) | exact HST.out _ (fun k h1 => Below.heap_setCell _ _ _ _ h1))
              clear hK K
              try simp only [Act.put, List.getElem_toArray, List.getElem_cons_succ, List.getElem_cons_zero, List.setIfInBounds_toArray, List.set_cons_zero, List.set_cons_succ]
              refine wpAnyH_take (i := 9) (oi := _) (v := ?_) rfl (by kernel_rfl) (by kernel_rfl) (by kernel_rfl) (fun _ _ _ h => h) (Or.inl ⟨by rfl, ?_⟩) (by assumption) ?_
              rotate_left 1
              · intro w hSw; (try dsimp only at hSw); go_simp; (try with_reducible rfl)
              try simp only [Act.put, List.getElem_toArray, List.getElem_cons_succ, List.getElem_cons_zero, List.setIfInBounds_toArray, List.set_cons_zero, List.set_cons_succ]
              refine wpAnyH_take (i := 10) (oi := _) (v := ?_) rfl (by kernel_rfl) (by kernel_rfl) (by kernel_rfl) (fun _ _ _ h => h) (Or.inl ⟨by rfl, ?_⟩) (by assumption) ?_
              rotate_left 1
              · intro w hSw; (try dsimp only at hSw); go_simp; (try with_reducible rfl)
              try simp only [Act.put, List.getElem_toArray, List.getElem_cons_succ, List.getElem_cons_zero, List.setIfInBounds_toArray, List.set_cons_zero, List.set_cons_succ]
              refine wpAnyH_take (i := 11) (oi := _) (v := ?_) rfl (by kernel_rfl) (by kernel_rfl) (by kernel_rfl) (fun _ _ _ h => h) (Or.inl ⟨by rfl, ?_⟩) (by assumption) ?_
              rotate_left 1
              · intro w hSw; (try dsimp only at hSw); go_simp; (try with_reducible rfl)
              try simp only [Act.put, List.getElem_toArray, List.getElem_cons_succ, List.getElem_cons_zero, List.setIfInBounds_toArray, List.set_cons_zero, List.set_cons_succ]
              refine wpAnyH_take (i := 12) (oi := _) (v := ?_) rfl (by kernel_rfl) (by kernel_rfl) (by kernel_rfl) (fun _ _ _ h => h) (Or.inl ⟨by rfl, ?_⟩) (by assumption) ?_
              rotate_left 1
              · intro w hSw; (try dsimp only at hSw); go_simp; (try with_reducible rfl)
              try simp only [Act.put, List.getElem_toArray, List.getElem_cons_succ, List.getElem_cons_zero, List.setIfInBounds_toArray, List.set_cons_zero, List.set_cons_succ]
              refine wpAnyH_ready (rs := [13]) (by kernel_rfl) (by simp) ?_
              refine AllReadyH.cons rfl (fun K hK => ?_) AllReadyH.nil
              try simp only [List.getElem_toArray, List.getElem_cons_succ, List.getElem_cons_zero]
              go_simp
              refine hK.out _ _ ?_ (fun hHeld => ?_)
              · (first | exact HST.out _ (fun k h1 => rfl) | exact HST.out _ (fun k h1 => Below.heap_setCell _ _ _ _ h1))
              clear hK K
              try simp only [Act.put, List.getElem_toArray, List.getElem_cons_succ, List.getElem_cons_zero, List.setIfInBounds_toArray, List.set_cons_zero, List.set_cons_succ]
              all_goals refine wpAnyH_done (by kernel_rfl) (NoPanic.normal ?_) _
              try simp only [Act.put, List.getElem_toArray, List.getElem_cons_succ, List.getElem_cons_zero, List.setIfInBounds_toArray, List.set_cons_succ, List.set_cons_zero]
              go_wp2_with fail
              refine ⟨⟨j + 1, by omega, by simp, ?_⟩, by simp [intOf]; omega⟩
              obtain ⟨e1, e2, e3⟩ := HJ.out
              refine ⟨fun k hk => (Below.heap_setCell _ _ _ _ hk).trans (e1 k hk), ?_, (e3.setCell (p := ⟨g, j, none⟩) rfl _).drew⟩
              rw [← HSET.out, HL2.out]
              exact setCell_cells e2 j _
            · have dj : decide ((j : Int) < (n : Int)) = false := decide_eq_false (by omega)
              have hje : j = n := by omega
              clear HW0 c0
              go_wp2_with fail
              refine ⟨rfl, .tuple #[.slice (some ⟨g, 0, none⟩) n n, .bool true, .int .i64 0], by simp [results, Tryz.results44], ?_, fun e => ?_, fun vs e => ⟨g, rfl, hge, ?_⟩⟩
              · obtain ⟨e1, e2, e3⟩ := HJ.out
                have b7 := HB7.out
                exact b7.trans ⟨e3.os, e3.tape, e3.output, e3.size, fun k hk => e3.block k (Nat.lt_of_lt_of_le hk b7.size) (by omega)⟩
              · rw [← HS.out] at e; cases e
              · rw [← HS.out] at e
                cases e
                obtain ⟨e1, e2, e3⟩ := HJ.out
                rw [e2, hje, Nat.sub_self]
                simp

end Go.Proofs.YtlehlgipbhfioaaGreat
