/- Package logic: isWhole; Eval's functions. Package logic: not. Package logic: Eval's functions. Package logic: Eval, up to its call of fold. Package sat: slices.Sort at literals, up to twelve. -/
import Derived.Test.YtlehlgipbhfioaaGreatP28
import Derived.Laws.Bits64
import Derived.Test.YtlehlgipbhfioaaGreatSaU
namespace Go.Proofs.YtlehlgipbhfioaaGreat
open Go.RowKit Go.Shelf

/-- Has a Form as many Kids as told? -/
def whl (t : Lf) : Bool := if t.op = 0 then t.kids.length == 0 else if t.op = 1 then t.kids.length == 1 else if t.op = 2 ∨ t.op = 3 ∨ t.op = 4 then t.kids.length == 2 else false

set_option maxHeartbeats 1000000 in
theorem isWhole_in (w : World) (t : Lf) (h : Here w t) :
    Calls Tryz.prog 137 #[.pointer (some ⟨t.b, t.o, none⟩)] w fun e w' => e = .returned (.bool (whl t)) ∧ w' = w := by
  have c0 := h.cells.c0
  have c3 := h.cells.c3
  obtain ⟨a, cap, hkv, _⟩ := h.kidsIn
  rw [hkv] at c3
  generalize hn : t.kids.length = n at *
  have W0 : whl t = (if t.op = 0 then n == 0 else if t.op = 1 then n == 1 else if t.op = 2 ∨ t.op = 3 ∨ t.op = 4 then n == 2 else false) := by simp [whl, hn]
  generalize hop : t.op = op at *
  have HW : Hid (whl t = _) := W0
  have hb0 : ((n : Int) == 0) = (n == 0) := by rw [Bool.eq_iff_iff, beq_iff_eq, beq_iff_eq]; omega
  have hb1 : ((n : Int) == 1) = (n == 1) := by rw [Bool.eq_iff_iff, beq_iff_eq, beq_iff_eq]; omega
  have hb2 : ((n : Int) == 2) = (n == 2) := by rw [Bool.eq_iff_iff, beq_iff_eq, beq_iff_eq]; omega
  have HB : Hid (_ ∧ _ ∧ _) := ⟨hb0, hb1, hb2⟩
  clear hb0 hb1 hb2
  clear W0 hop hn
  go_enter Tryz.func137, Tryz.ntmps137
  by_cases h0 : op = 0
  · subst h0
    go_wp2_with fail
    go_ret
    refine ⟨ret_bool ?_, rfl⟩
    rw [HW.out, HB.out.1]
    simp
  · have d0 : (op == 0) = false := by simpa using h0
    by_cases h1 : op = 1
    · subst h1
      go_wp2_with fail
      go_ret
      refine ⟨ret_bool ?_, rfl⟩
      rw [HW.out, HB.out.2.1]
      simp
    · have d1 : (op == 1) = false := by simpa using h1
      by_cases h2 : op = 2
      · subst h2
        go_wp2_with fail
        go_ret
        refine ⟨ret_bool ?_, rfl⟩
        rw [HW.out, HB.out.2.2]
        simp
      · have d2 : (op == 2) = false := by simpa using h2
        by_cases h3 : op = 3
        · subst h3
          go_wp2_with fail
          go_ret
          refine ⟨ret_bool ?_, rfl⟩
          rw [HW.out, HB.out.2.2]
          simp
        · have d3 : (op == 3) = false := by simpa using h3
          by_cases h4 : op = 4
          · subst h4
            go_wp2_with fail
            go_ret
            refine ⟨ret_bool ?_, rfl⟩
            rw [HW.out, HB.out.2.2]
            simp
          · have d4 : (op == 4) = false := by simpa using h4
            go_wp2_with fail
            go_ret
            refine ⟨?_, rfl⟩
            rw [HW.out]
            simp [h0, h1, h2, h3, h4]

end Go.Proofs.YtlehlgipbhfioaaGreat

namespace Go.Proofs.YtlehlgipbhfioaaGreat
open Go.RowKit Go.Maps

set_option maxRecDepth 100000 in
set_option maxHeartbeats 2000000 in
theorem not_at (f : Nat) (H3 : At 194 3 f) (H0 : At 68 0 f) : At 194 3 (f + 1) := by
  intro w base r p ev nb fb s i d l h hf hd
  have hle := h.lp.le
  have hrw := h.lp.row.lt
  have A1 := fun (o : Obj) => h.kept0 (Kept.alloc (Kept.refl _ w) o)
  have NX := fun o => next_at (w.alloc o) base r p ev nb fb s i d l (A1 o).1
  have hbg := bl_ge s (i + 1)
  rw [gp, if_neg (by omega), if_pos rfl]
  go_enter Tryz.func194, Tryz.ntmps194
  by_cases h33 : byt s i = 33
  · rw [if_pos h33]
    rw [h33] at NX
    have hi2 := byt_in h33 (by omega)
    have WI := fun W ev' (P : PB W base r p ev' nb fb s i d l) => within_not f H3 W base r p ev' nb fb s i d l P 33 (by omega) h33 hd (by omega)
    by_cases h20 : 20 ≤ d
    · rw [if_pos h20]
      simp only [h20, if_true] at WI
      go_wp2_with (first | (go_at_call 110; refine (NX _).mono ?_; rintro e w3 ⟨rfl, P3, G3⟩; have W3 := WI w3 ev P3) | (go_at_call 232; refine W3.mono ?_; rintro e w5 ⟨rfl, ev5, k5, d5, P5, G5⟩))
      exact ⟨rfl, rfl, ev5, k5, d5, P5, ((A1 _).2.trans G3).trans G5⟩
    · rw [if_neg h20]
      simp only [h20, if_false] at WI
      cases hg : gp s f 3 (d + 1) (bl s (i + 1)) l with
      | bad e0 q0 l0 =>
        rw [hg] at WI
        go_wp2_with (first | (go_at_call 110; refine (NX _).mono ?_; rintro e w3 ⟨rfl, P3, G3⟩; have W3 := WI w3 ev P3) | (go_at_call 232; refine W3.mono ?_; rintro e w5 ⟨rfl, ev5, k5, d5, P5, G5⟩))
        exact ⟨rfl, rfl, ev5, k5, d5, P5, ((A1 _).2.trans G3).trans G5⟩
      | ok g0 k0 l0 =>
        rw [hg] at WI
        go_wp2_with (first | (go_at_call 110; refine (NX _).mono ?_; rintro e w3 ⟨rfl, P3, G3⟩; have W3 := WI w3 ev P3) | (go_at_call 232; refine W3.mono ?_; rintro e w5 ⟨v5, rfl, V5, ev5, P5, G5⟩; have hlt0 : w.heap.size + 1 ≤ w3.heap.size := (by have := G3.kept.size; simp at this; omega); have NG := negation_in w5 (w.heap.size + 1) v5 _ (V5.mono hlt0) (by have := G5.kept.size; omega); obtain ⟨op5, x5, y5, a5, n5, cap5, rfl⟩ := V5.form) | (go_at_call 231; refine NG.mono ?_; rintro e w6 ⟨u, rfl, V6, K6⟩; obtain ⟨op6, x6, y6, a6, n6, cap6, rfl⟩ := V6.form; have P6 := P5.kept0 K6; have F6 := rowIs_keep ((((A1 _).1.fkeep G3 w.heap.size).trans (P3.fkeep G5 _)).trans (P5.fkeep P6.2 _)) (Nat.le_refl _) (made_form w (.int .i64 0) (.int .i64 0) (.int .i64 0) (.slice none 0 0)); obtain ⟨z0, z1, z2, z3⟩ := form_cells F6; have y0 := World.rowIs.frozen F6 0; have y1 := World.rowIs.frozen F6 1; have y2 := World.rowIs.frozen F6 2; have y3 := World.rowIs.frozen F6 3; have hlt := World.rowIs.lt F6))
        have N := fin_box P6.1 F6 V6 ((((A1 _).2.trans G3).trans G5).trans P6.2) (Kept.refl _ _)
        unfold put4 at N
        clear z0 z1 z2 z3 y0 y1 y2 y3
        generalize ((((w6).setCell ⟨w.heap.size, 0, none⟩ (.int .i64 op6)).setCell ⟨w.heap.size, 1, none⟩ (.int .i64 x6)).setCell ⟨w.heap.size, 2, none⟩ (.int .i64 y6)).setCell ⟨w.heap.size, 3, none⟩ (.slice a6 n6 cap6) = w8 at N ⊢
        obtain ⟨z0, z1, z2, z3, V8, P8, G8⟩ := N
        refine ⟨rfl, .agg #[.int .i64 op6, .int .i64 x6, .int .i64 y6, .slice a6 n6 cap6], by simp [results, Tryz.results194, go_sem, z0, z1, z2, z3], ?_⟩
        exact ⟨_, rfl, V8, ev5, P8, G8⟩
  · rw [if_neg h33]
    have d33 : ((byt s i : Int) == 33) = false := by simp; omega
    by_cases h40 : byt s i = 40
    · rw [if_pos h40]
      rw [h40] at NX
      clear d33
      have hi2 := byt_in h40 (by omega)
      have WI := fun W ev' (P : PB W base r p ev' nb fb s i d l) => within_form f H0 W base r p ev' nb fb s i d l P 40 (by omega) h40 hd (by omega)
      by_cases h20 : 20 ≤ d
      · rw [if_pos h20]
        simp only [h20, if_true] at WI
        go_wp2_with (first | (go_at_call 110; refine (NX _).mono ?_; rintro e w3 ⟨rfl, P3, G3⟩; have W3 := WI w3 ev P3) | (go_at_call 232; refine W3.mono ?_; rintro e w5 ⟨rfl, ev5, k5, d5, P5, G5⟩))
        exact ⟨rfl, rfl, ev5, k5, d5, P5, ((A1 _).2.trans G3).trans G5⟩
      · rw [if_neg h20]
        simp only [h20, if_false] at WI
        cases hg : gp s f 0 (d + 1) (bl s (i + 1)) l with
        | bad e0 q0 l0 =>
          rw [hg] at WI
          go_wp2_with (first | (go_at_call 110; refine (NX _).mono ?_; rintro e w3 ⟨rfl, P3, G3⟩; have W3 := WI w3 ev P3) | (go_at_call 232; refine W3.mono ?_; rintro e w5 ⟨rfl, ev5, k5, d5, P5, G5⟩))
          exact ⟨rfl, rfl, ev5, k5, d5, P5, ((A1 _).2.trans G3).trans G5⟩
        | ok g0 k0 l0 =>
          rw [hg] at WI
          simp only [Res.bind]
          have hk0 := ((gp_ok s f).1 0 (d + 1) (bl s (i + 1)) l g0 k0 l0 (bl_le (by omega)) hg).2
          cases hs : stands s k0 41 with
          | false =>
            rw [if_neg (by simp)]
            go_wp2_with (first | (go_at_call 110; refine (NX _).mono ?_; rintro e w3 ⟨rfl, P3, G3⟩; have W3 := WI w3 ev P3) | (go_at_call 232; refine W3.mono ?_; rintro e w5 ⟨v5, rfl, V5, ev5, P5, G5⟩; obtain ⟨op5, x5, y5, a5, n5, cap5, rfl⟩ := V5.form; have Q5 := P5.kept0 (Kept.alloc (Kept.refl _ w5) (.cells #[.int .i64 op5, .int .i64 x5, .int .i64 y5, .slice a5 n5 cap5] 36)); have MU := must_bad _ base r p ev5 nb fb s k0 d l0 Q5.1 41 (by omega) hs) | (go_at_call 112; refine MU.mono ?_; rintro e w6 ⟨rfl, P6, G6⟩))
            exact ⟨rfl, rfl, ev5, k0, d, P6, ((((A1 _).2.trans G3).trans G5).trans Q5.2).trans G6⟩
          | true =>
            rw [if_pos rfl]
            go_wp2_with (first | (go_at_call 110; refine (NX _).mono ?_; rintro e w3 ⟨rfl, P3, G3⟩; have W3 := WI w3 ev P3) | (go_at_call 232; refine W3.mono ?_; rintro e w5 ⟨v5, rfl, V5, ev5, P5, G5⟩; have hlt0 : w.heap.size + 1 ≤ w3.heap.size := (by have := G3.kept.size; simp at this; omega); obtain ⟨op5, x5, y5, a5, n5, cap5, rfl⟩ := V5.form; have Q5 := P5.kept0 (Kept.alloc (Kept.refl _ w5) (.cells #[.int .i64 op5, .int .i64 x5, .int .i64 y5, .slice a5 n5 cap5] 36)); have MU := must_at _ base r p ev5 nb fb s k0 d l0 Q5.1 41 hs) | (go_at_call 112; refine MU.mono ?_; rintro e w6 ⟨rfl, P6, G6⟩; have F6 := rowIs_keep (((((A1 _).1.fkeep G3 w.heap.size).trans (P3.fkeep G5 _)).trans (P5.fkeep Q5.2 _)).trans (Q5.1.fkeep G6 _)) (Nat.le_refl _) (made_form w (.int .i64 0) (.int .i64 0) (.int .i64 0) (.slice none 0 0)); have E6 := rowIs_keep (Q5.1.fkeep G6 0) (Nat.zero_le _) (made_form w5 (.int .i64 op5) (.int .i64 x5) (.int .i64 y5) (.slice a5 n5 cap5)); obtain ⟨z0, z1, z2, z3⟩ := form_cells F6; obtain ⟨t0, t1, t2, t3⟩ := form_cells E6; have y0 := World.rowIs.frozen F6 0; have y1 := World.rowIs.frozen F6 1; have y2 := World.rowIs.frozen F6 2; have y3 := World.rowIs.frozen F6 3; have hlt := World.rowIs.lt F6))
            have V6 := ((V5.mono hlt0).keep (P5.fkeep Q5.2 _)).keep (Q5.1.fkeep G6 _)
            have N := fin_box P6 F6 V6 (((((A1 _).2.trans G3).trans G5).trans Q5.2).trans G6) (Kept.refl _ _)
            unfold put4 at N
            clear z0 z1 z2 z3 y0 y1 y2 y3 t0 t1 t2 t3
            generalize ((((w6).setCell ⟨w.heap.size, 0, none⟩ (.int .i64 op5)).setCell ⟨w.heap.size, 1, none⟩ (.int .i64 x5)).setCell ⟨w.heap.size, 2, none⟩ (.int .i64 y5)).setCell ⟨w.heap.size, 3, none⟩ (.slice a5 n5 cap5) = w8 at N ⊢
            obtain ⟨z0, z1, z2, z3, V8, P8, G8⟩ := N
            refine ⟨rfl, .agg #[.int .i64 op5, .int .i64 x5, .int .i64 y5, .slice a5 n5 cap5], by simp [results, Tryz.results194, go_sem, z0, z1, z2, z3], ?_⟩
            exact ⟨_, rfl, V8, ev5, P8, G8⟩
    · rw [if_neg h40]
      have d40 : ((byt s i : Int) == 40) = false := by simp; omega
      have EQ := fun W ev' (P : PB W base r p ev' nb fb s i d l) => equality_in W base r p ev' nb fb s i d l P
      cases hg : gEqu s i l with
      | bad e0 q0 l0 =>
        rw [hg] at EQ
        go_wp2_with (first | (go_at_call 110; refine (NX _).mono ?_; rintro e w3 ⟨rfl, P3, G3⟩; have W3 := EQ w3 ev P3) | (go_at_call 233; refine W3.mono ?_; rintro e w5 ⟨rfl, ev5, k5, d5, P5, G5⟩))
        exact ⟨rfl, rfl, ev5, k5, d5, P5, ((A1 _).2.trans G3).trans G5⟩
      | ok g0 k0 l0 =>
        rw [hg] at EQ
        go_wp2_with (first | (go_at_call 110; refine (NX _).mono ?_; rintro e w3 ⟨rfl, P3, G3⟩; have W3 := EQ w3 ev P3) | (go_at_call 233; refine W3.mono ?_; rintro e w6 ⟨v5, rfl, V5, ev5, P5, G5⟩; have hlt0 : w.heap.size + 1 ≤ w3.heap.size := (by have := G3.kept.size; simp at this; omega); obtain ⟨op6, x6, y6, a6, n6, cap6, rfl⟩ := V5.form; have F6 := rowIs_keep (((A1 _).1.fkeep G3 w.heap.size).trans (P3.fkeep G5 _)) (Nat.le_refl _) (made_form w (.int .i64 0) (.int .i64 0) (.int .i64 0) (.slice none 0 0)); obtain ⟨z0, z1, z2, z3⟩ := form_cells F6; have y0 := World.rowIs.frozen F6 0; have y1 := World.rowIs.frozen F6 1; have y2 := World.rowIs.frozen F6 2; have y3 := World.rowIs.frozen F6 3; have hlt := World.rowIs.lt F6))
        have N := fin_box P5 F6 (V5.mono hlt0) (((A1 _).2.trans G3).trans G5) (Kept.refl _ _)
        unfold put4 at N
        clear z0 z1 z2 z3 y0 y1 y2 y3
        generalize ((((w6).setCell ⟨w.heap.size, 0, none⟩ (.int .i64 op6)).setCell ⟨w.heap.size, 1, none⟩ (.int .i64 x6)).setCell ⟨w.heap.size, 2, none⟩ (.int .i64 y6)).setCell ⟨w.heap.size, 3, none⟩ (.slice a6 n6 cap6) = w8 at N ⊢
        obtain ⟨z0, z1, z2, z3, V8, P8, G8⟩ := N
        refine ⟨rfl, .agg #[.int .i64 op6, .int .i64 x6, .int .i64 y6, .slice a6 n6 cap6], by simp [results, Tryz.results194, go_sem, z0, z1, z2, z3], ?_⟩
        exact ⟨_, rfl, V8, ev5, P8, G8⟩

end Go.Proofs.YtlehlgipbhfioaaGreat

namespace Go.Proofs.YtlehlgipbhfioaaGreat
open Go.RowKit Go.Shelf

/-- Classes, and how many there are, in two boxes. -/
structure Cls (W : World) (bb cb : Nat) (ca : Option Addr) (cn cc : Nat) (cls : List Int) : Prop where
  bnd : W.rowIs bb 105 1 (fun _ => .int .u64 (cn : Int))
  cbx : W.rowIs cb 39 1 (fun _ => .slice ca cn cc)
  len : cls.length = cn
  cells : cls = [] ∨ ∃ g off, ca = some ⟨g, off, none⟩ ∧ ∀ (j : Nat) (c : Int), cls[j]? = some c → W.cell? ⟨g, off + j, none⟩ = some (.int .i64 c)
  small : cn ≤ 9223372036854775807

theorem u_in {n : Nat} {a : Int} (hn : n ≤ 9223372036854775807) (ha : R64 a) : decide (IntKind.u64.wrap a < (n : Int)) = inC n a := by
  unfold inC
  obtain ⟨h1, h2⟩ := ha
  rw [IntKind.wrap_u64, decide_eq_decide]
  omega

set_option maxRecDepth 100000 in
set_option maxHeartbeats 2000000 in
theorem same_in (w : World) (bb cb : Nat) (ca : Option Addr) (cn cc : Nat) (cls : List Int) (h : Cls w bb cb ca cn cc cls) (a b : Int) (ha : R64 a) (hb : R64 b) :
    Calls Tryz.prog 134 #[.agg #[.int .i64 a, .int .i64 b], .pointer (some ⟨bb, 0, none⟩), .pointer (some ⟨cb, 0, none⟩)] w fun e w' => e = .returned (.bool (sameC cls a b)) ∧ Kept0 w w' := by
  have c0 := h.bnd.cell (i := 0) (by omega)
  have c1 := h.cbx.cell (i := 0) (by omega)
  have z0 := h.bnd.lt
  have z1 := h.cbx.lt
  have ua := u_in h.small ha
  have ub := u_in h.small hb
  have hl := h.len
  have K1 : ∀ m, Kept0 w ((w.alloc (.cells #[.int .i64 a, .int .i64 b] 34)).drewN m) := fun m => ((Kept.refl _ w).alloc _).drewN m
  have HS : Hid (sameC cls a b = (inC cn a && inC cn b && (cls[a.toNat]?.getD 0 == cls[b.toNat]?.getD 0))) := by show _ = _; rw [← hl]; rfl
  go_enter Tryz.func134, Tryz.ntmps134
  cases hia : inC cn a with
  | false =>
    rw [hia] at ua HS
    go_wp2_with fail
    go_quiet (fail)
    go_wp2_with fail
    go_ret
    exact ⟨ret_bool (by rw [HS.out]; rfl), K1 _⟩
  | true =>
    rw [hia] at ua HS
    cases hib : inC cn b with
    | false =>
      rw [hib] at ub HS
      go_wp2_with fail
      go_quiet (fail)
      go_wp2_with fail
      go_ret
      exact ⟨ret_bool (by rw [HS.out]; rfl), K1 _⟩
    | true =>
      rw [hib] at ub HS
      have ia := of_decide_eq_true hia
      have ib := of_decide_eq_true hib
      obtain ⟨i, rfl⟩ : ∃ i : Nat, a = (i : Int) := ⟨a.toNat, by omega⟩
      obtain ⟨j, rfl⟩ : ∃ j : Nat, b = (j : Int) := ⟨b.toNat, by omega⟩
      have hi : i < cls.length := by omega
      have hj : j < cls.length := by omega
      rcases h.cells with hc | ⟨g, off, rfl, hc⟩
      · rw [hc] at hi; simp at hi
      · have e1 := hc i _ (List.getElem?_eq_getElem hi)
        have e2 := hc j _ (List.getElem?_eq_getElem hj)
        have zg : g < w.heap.size := World.block_lt_of_cell? w _ e1
        have hi2 : (i : Int) < (cn : Int) := ia.2
        have hj2 : (j : Int) < (cn : Int) := ib.2
        have HS2 : Hid (sameC cls i j = (cls[i] == cls[j])) := by
          show _ = _
          rw [HS.out]
          simp [hi, hj]
        clear HS hc hia hib ha hb ia ib
        generalize cls[i] = ci at *
        generalize cls[j] = cj at *
        go_wp2_with fail
        go_quiet (fail)
        go_wp2_with fail
        go_ret
        exact ⟨ret_bool (by rw [HS2.out]), K1 _⟩

end Go.Proofs.YtlehlgipbhfioaaGreat

namespace Go.Proofs.YtlehlgipbhfioaaGreat
open Go.RowKit Go.Shelf

theorem store_func (P : Program) (W : World) (a : Addr) (m : Mode) (fn : Fn) (first cap : Array Value) : (store a (.func fn first cap) m).run P W = stored P W a (.func fn first cap) m := run_store P W a _ m rfl
attribute [local go_sem] store_func

/-- What Eval makes before it calls fold. -/
def evW (w : World) (op x y : Int) (kv : Value) (ca : Option Addr) (cn cc : Nat) : World :=
  (((w.alloc (.cells #[.int .i64 op, .int .i64 x, .int .i64 y, kv] 36)).alloc (.cells #[.slice ca cn cc] 39)).alloc (.cells #[.int .u64 (cn : Int)] 105)).alloc (.cells #[.func (.func 134) #[] #[.pointer (some ⟨w.heap.size + 2, 0, none⟩), .pointer (some ⟨w.heap.size + 1, 0, none⟩)]] 241)

set_option maxRecDepth 100000 in
set_option maxHeartbeats 2000000 in
theorem eval_w (w : World) (op x y : Int) (a : Option Addr) (n cap : Nat) (ca : Option Addr) (cn cc : Nat) (hcn : cn ≤ 9223372036854775807) (b : Bool) (B : Nat)
    (HF : Calls Tryz.prog 135 #[.pointer (some ⟨w.heap.size, 0, none⟩), .func (.func 136) #[] #[.pointer (some ⟨w.heap.size + 3, 0, none⟩)]] (evW w op x y (.slice a n cap) ca cn cc) fun e w' => e = .returned (.bool b) ∧ Below B w w') :
    Calls Tryz.prog 91 #[.agg #[.int .i64 op, .int .i64 x, .int .i64 y, .slice a n cap], .slice ca cn cc] w fun e w' => e = .returned (.bool b) ∧ Below B w w' := by
  have hwr : IntKind.u64.wrap (cn : Int) = (cn : Int) := by rw [IntKind.wrap_u64]; omega
  unfold evW at HF
  go_enter Tryz.func91, Tryz.ntmps91
  go_wp2_with (first | (go_at_call 135; refine HF.mono ?_; rintro e w2 ⟨rfl, B2⟩))
  go_ret
  exact ⟨rfl, B2⟩

theorem one_row (w : World) (v : Value) (ty : TypeId) : (w.alloc (.cells #[v] ty)).rowIs w.heap.size ty 1 (fun _ => v) := World.rowIs.congr (made_row w #[v] ty) (fun j hj => by
  have : j = 0 := by simp at hj; omega
  subst this; rfl)
theorem row_alloc {w : World} {b n : Nat} {f : Nat → Value} {ty : TypeId} (o : Obj) (h : w.rowIs b ty n f) : (w.alloc o).rowIs b ty n f := h.of_block (Below.heap_alloc w o b (World.rowIs.lt h))

/-- What lies in that world. -/
theorem evW_at (w : World) (op x y : Int) (kv : Value) (kids : List Lf) (hk : KidsIn kv kids) (hks : ∀ k ∈ kids, Here w k) (ca : Option Addr) (cn cc : Nat) (cls : List Int) (hl : cls.length = cn) (hc : cls = [] ∨ ∃ g off, ca = some ⟨g, off, none⟩ ∧ ∀ (j : Nat) (c : Int), cls[j]? = some c → w.cell? ⟨g, off + j, none⟩ = some (.int .i64 c)) (hs : cn ≤ 9223372036854775807) :
    Here (evW w op x y kv ca cn cc) (.mk w.heap.size 0 op x y kv kids) ∧ Cls (evW w op x y kv ca cn cc) (w.heap.size + 2) (w.heap.size + 1) ca cn cc cls ∧
    (evW w op x y kv ca cn cc).rowIs (w.heap.size + 3) 241 1 (fun _ => .func (.func 134) #[] #[.pointer (some ⟨w.heap.size + 2, 0, none⟩), .pointer (some ⟨w.heap.size + 1, 0, none⟩)]) ∧
    Below w.heap.size w (evW w op x y kv ca cn cc) ∧ (evW w op x y kv ca cn cc).heap.size = w.heap.size + 4 := by
  have hz1 : (w.alloc (.cells #[.int .i64 op, .int .i64 x, .int .i64 y, kv] 36)).heap.size = w.heap.size + 1 := by simp
  have hz2 : ((w.alloc (.cells #[.int .i64 op, .int .i64 x, .int .i64 y, kv] 36)).alloc (.cells #[.slice ca cn cc] 39)).heap.size = w.heap.size + 2 := by simp
  have hz3 : (((w.alloc (.cells #[.int .i64 op, .int .i64 x, .int .i64 y, kv] 36)).alloc (.cells #[.slice ca cn cc] 39)).alloc (.cells #[.int .u64 (cn : Int)] 105)).heap.size = w.heap.size + 3 := by simp
  have hB : Below w.heap.size w (evW w op x y kv ca cn cc) := ((((Below.refl _ w).alloc (Nat.le_refl _) _).alloc (by simp) _).alloc (by simp; omega) _).alloc (by simp; omega) _
  have K : FKeepA (fun k => k < w.heap.size) w (evW w op x y kv ca cn cc) := fun k _ _ hlt hk => (hB.block k hlt).trans hk
  refine ⟨LayA.mk trivial ?_ hk (fun k hkk => ?_), ⟨?_, ?_, hl, ?_, hs⟩, ?_, hB, by simp [evW]⟩
  · refine ⟨#[.int .i64 op, .int .i64 x, .int .i64 y, kv], (0, 0), ?_, rfl, rfl, rfl, rfl, rfl⟩
    unfold evW
    rw [Below.heap_alloc _ _ _ (by simp; omega), Below.heap_alloc _ _ _ (by simp; omega), Below.heap_alloc _ _ _ (by simp)]
    exact World.alloc_heap_new w _
  · exact ((hks k hkk).lt.mono (fun _ h => h.2)).keep K |>.mono (fun _ _ => trivial)
  · exact row_alloc _ (hz2 ▸ one_row _ (.int .u64 (cn : Int)) 105)
  · exact row_alloc _ (row_alloc _ (hz1 ▸ one_row _ (.slice ca cn cc) 39))
  · rcases hc with h | ⟨g, off, h1, h2⟩
    · exact Or.inl h
    · refine Or.inr ⟨g, off, h1, fun j c hj => ?_⟩
      have := h2 j c hj
      exact (hB.cell (World.block_lt_of_cell? w _ this)).trans this
  · exact hz3 ▸ one_row _ _ 241

end Go.Proofs.YtlehlgipbhfioaaGreat

namespace Go.Proofs.YtlehlgipbhfioaaGreat
open Go.RowKit Go.Maps

set_option maxRecDepth 100000 in
set_option maxHeartbeats 400000 in
theorem sNaN_in (w : World) (x : Int) : Calls Tryz.prog 240 #[.int .i32 x] w fun e w' => e = .returned (.bool false) ∧ w = w' := by
  go_enter Tryz.func240, Tryz.ntmps240
  go_wp2_with fail
  go_ret
  exact ⟨by simp, rfl⟩

set_option maxRecDepth 100000 in
set_option maxHeartbeats 400000 in
theorem sLess_in (w : World) (x y : Int) : Calls Tryz.prog 207 #[.int .i32 x, .int .i32 y] w fun e w' => e = .returned (.bool (decide (x < y))) ∧ w = w' := by
  have N1 := sNaN_in w x
  have N2 := sNaN_in w y
  go_enter Tryz.func207, Tryz.ntmps207
  go_wp2_with (first | (go_at_call 240; refine N1.mono ?_; rintro e w3 ⟨rfl, rfl⟩) | (go_at_call 240; refine N2.mono ?_; rintro e w3 ⟨rfl, rfl⟩))
  go_ret
  exact ⟨rfl, rfl⟩

/-- A row of literals. -/
def RowL (W : World) (g : Nat) (xs : List Nat) : Prop := W.heap[g]? = some (.cells (xs.map i32).toArray 192)
theorem RowL.cell {W : World} {g : Nat} {xs : List Nat} (h : RowL W g xs) {i x : Nat} (hi : xs[i]? = some x) : W.cell? ⟨g, i, none⟩ = some (.int .i32 (x : Int)) := by
  unfold RowL at h
  simp [World.cell?, h, hi, i32]
theorem RowL.frozen {W : World} {g : Nat} {xs : List Nat} (h : RowL W g xs) (i : Nat) : W.frozen? ⟨g, i, none⟩ = false := by
  unfold RowL at h
  simp [World.frozen?, h]
theorem RowL.set {W : World} {g : Nat} {xs : List Nat} (h : RowL W g xs) (i x : Nat) : RowL (W.setCell ⟨g, i, none⟩ (.int .i32 (x : Int))) g (xs.set i x) := by
  unfold RowL at h ⊢
  rw [List.map_set]
  exact setCell_cells h i (i32 x)

/-- Where an element is on its way down. -/
def InsAt (W : World) (g n i j : Nat) (xs0 : List Nat) : Prop :=
  ∃ (P S R : List Nat) (x : Nat), RowL W g (P ++ x :: S ++ R) ∧ P.length = j ∧ P.length + S.length = i ∧ (P ++ x :: S ++ R).length = n ∧ (P ++ S).Pairwise (· ≤ ·) ∧ (∀ y ∈ S, x < y) ∧ (P ++ x :: S ++ R).Perm xs0

theorem cast_lt {a b : Nat} (h : a < b) : (a : Int) < (b : Int) := by omega
theorem cast_lt1 {a b : Nat} (h : a + 1 < b) : (a : Int) + 1 < (b : Int) := by omega
theorem cast_pos (a : Nat) : (0 : Int) < (a : Int) + 1 := by omega
theorem wrap_nat {a : Nat} (h : a ≤ 1048576) : wrap64 (a : Int) = (a : Int) := by unfold wrap64; omega
theorem wrap_nat0 {a : Nat} (h : a ≤ 1048576) : IntKind.i64.wrap (a : Int) = (a : Int) := by rw [IntKind.wrap_i64]; omega
theorem wrap_nat1 {a : Nat} (h : a ≤ 1048576) : IntKind.i64.wrap ((a : Int) + 1) = (a : Int) + 1 := by rw [IntKind.wrap_i64]; omega

/-- The element and the one ahead of it. -/
theorem InsAt.two {W : World} {g n i j : Nat} {xs : List Nat} (h : InsAt W g n i (j + 1) xs) : ∃ p x : Nat, j + 1 < n ∧ W.cell? ⟨g, j, none⟩ = some (.int .i32 (p : Int)) ∧ W.cell? ⟨g, j + 1, none⟩ = some (.int .i32 (x : Int)) ∧
    W.frozen? ⟨g, j, none⟩ = false ∧ W.frozen? ⟨g, j + 1, none⟩ = false ∧
    (x < p → ∀ m, InsAt (((W.drewN m).setCell ⟨g, j + 1, none⟩ (.int .i32 (p : Int))).setCell ⟨g, j, none⟩ (.int .i32 (x : Int))) g n i j xs) ∧
    (¬ x < p → ∃ Q R, RowL W g (Q ++ R) ∧ Q.length = i + 1 ∧ Q.Pairwise (· ≤ ·) ∧ (Q ++ R).Perm xs) := by
  obtain ⟨P0, S, R, x, h1, h2, h3, h4, h5, h6, h7⟩ := h
  obtain ⟨P, p, rfl⟩ : ∃ P p, P0 = P ++ [p] := by
    have hne : P0 ≠ [] := fun e => by rw [e] at h2; simp at h2
    exact ⟨P0.dropLast, P0.getLast hne, (List.dropLast_concat_getLast hne).symm⟩
  have hPl : P.length = j := by simp at h2; exact h2
  have exs : P ++ [p] ++ x :: S ++ R = P ++ p :: x :: (S ++ R) := by simp
  have h4' := h4
  have h1' := h1
  rw [exs] at h1 h4
  have gp : (P ++ p :: x :: (S ++ R))[j]? = some p := by rw [List.getElem?_append_right (by omega)]; simp [hPl]
  have gx : (P ++ p :: x :: (S ++ R))[j + 1]? = some x := by rw [List.getElem?_append_right (by omega)]; simp [hPl]
  refine ⟨p, x, by simp at h4; omega, h1.cell gp, h1.cell gx, h1.frozen _, h1.frozen _, fun hxp m => ?_, fun hxp => ?_⟩
  · have hr : RowL (W.drewN m) g (P ++ p :: x :: (S ++ R)) := h1
    have hr2 := (hr.set (j + 1) p).set j x
    have e : ((P ++ p :: x :: (S ++ R)).set (j + 1) p).set j x = P ++ x :: (p :: S) ++ R := by
      rw [List.set_append_right _ _ (by omega), List.set_append_right _ _ (by omega)]
      have e1 : j + 1 - P.length = 1 := by omega
      have e2 : j - P.length = 0 := by omega
      rw [e1, e2]
      simp
    rw [e] at hr2
    have hperm : (P ++ x :: (p :: S) ++ R).Perm (P ++ [p] ++ x :: S ++ R) := by
      simp only [List.append_assoc, List.cons_append, List.nil_append]
      exact List.Perm.append_left P (List.Perm.swap p x (S ++ R))
    refine ⟨P, p :: S, R, x, hr2, hPl, by simp at h3 ⊢; omega, ?_, by simpa using h5, fun y hy => ?_, hperm.trans h7⟩
    · rw [hperm.length_eq]; exact h4'
    · rcases List.mem_cons.1 hy with rfl | hy
      · exact hxp
      · exact h6 y hy
  · refine ⟨P ++ [p] ++ x :: S, R, h1', by simp at h3 ⊢; omega, ?_, h7⟩
    rw [List.pairwise_append] at h5 ⊢
    obtain ⟨q1, q2, q3⟩ := h5
    have hle : ∀ a ∈ P ++ [p], a ≤ x := fun a ha => by
      rcases List.mem_append.1 ha with ha | ha
      · rw [List.pairwise_append] at q1
        have := q1.2.2 a ha p (by simp)
        omega
      · simp at ha; omega
    refine ⟨q1, List.pairwise_cons.2 ⟨fun y hy => Nat.le_of_lt (h6 y hy), q2⟩, fun a ha b hb => ?_⟩
    rcases List.mem_cons.1 hb with rfl | hb
    · exact hle a ha
    · exact q3 a ha b hb

theorem InsAt.drew {W : World} {g n i j : Nat} {xs : List Nat} (h : InsAt W g n i j xs) (m : Nat) : InsAt (W.drewN m) g n i j xs := h

set_option maxRecDepth 100000 in
set_option maxHeartbeats 1000000 in
theorem sInsS_in (w : World) (g : Nat) (xs : List Nat) (c : Nat) (h : RowL w g xs) (hn : xs.length ≤ 1048576) (hc : xs.length ≤ c) :
    Calls Tryz.prog 201 #[.slice (some ⟨g, 0, none⟩) xs.length c, .int .i64 0, .int .i64 (xs.length : Int)] w fun e w' => e = .returned (.tuple #[]) ∧ ∃ ys, RowL w' g ys ∧ ys.Perm xs ∧ ys.Pairwise (· ≤ ·) ∧ Kept (fun k => k = g) w w' := by
  have V0 : Hid (∃ Q R, RowL w g (Q ++ R) ∧ Q.length = min 1 xs.length ∧ Q.Pairwise (· ≤ ·) ∧ (Q ++ R).Perm xs ∧ Kept (fun k => k = g) w w) := by
    cases xs with
    | nil => exact ⟨[], [], h, rfl, List.Pairwise.nil, List.Perm.refl _, Kept.refl _ _⟩
    | cons x r => exact ⟨[x], r, h, by simp, by simp, List.Perm.refl _, Kept.refl _ _⟩
  clear h
  generalize hln : xs.length = n at *
  go_enter Tryz.func201, Tryz.ntmps201
  go_wp2_with fail
  go_loopw [6] (fun t6 W => ∃ i : Nat, 1 ≤ i ∧ t6 = .int .i64 (i : Int) ∧ Hid (∃ Q R, RowL W g (Q ++ R) ∧ Q.length = min i n ∧ Q.Pairwise (· ≤ ·) ∧ (Q ++ R).Perm xs ∧ Kept (fun k => k = g) w W)) (fun t6 _ => n - (intOf t6).toNat)
  case atStart => exact ⟨1, by omega, rfl, V0⟩
  case round =>
    obtain ⟨i, hi1, rfl, HV⟩ := hrel
    by_cases hin : i < n
    · have di : decide ((i : Int) < (n : Int)) = true := decide_eq_true (by omega)
      have hwrap : IntKind.i64.wrap ((i : Int) + 1) = (i : Int) + 1 := by rw [IntKind.wrap_i64]; omega
      have V1 : Hid (InsAt wr g n i i xs ∧ Kept (fun k => k = g) w wr) := by
        obtain ⟨Q, R, h1, h2, h3, h4, h5⟩ := HV.out
        have hl := h4.length_eq
        rw [List.length_append, hln] at hl
        cases R with
        | nil => simp at hl; omega
        | cons x R => exact ⟨⟨Q, [], R, x, by simpa using h1, by omega, by simp; omega, by simp at hl ⊢; omega, by simpa using h3, by simp, by simpa using h4⟩, h5⟩
      clear V0 HV
      go_wp2_with fail
      go_loopw [7] (fun t7 W => ∃ j : Nat, j ≤ i ∧ t7 = .int .i64 (j : Int) ∧ Hid (InsAt W g n i j xs ∧ Kept (fun k => k = g) w W)) (fun t7 _ => (intOf t7).toNat)
      case atStart => exact ⟨i, Nat.le_refl _, rfl, V1⟩
      case round =>
        obtain ⟨j, hji, rfl, HI⟩ := hrel
        cases j with
        | zero =>
          have HO : Hid (∃ Q R, RowL wr g (Q ++ R) ∧ Q.length = min (i + 1) n ∧ Q.Pairwise (· ≤ ·) ∧ (Q ++ R).Perm xs ∧ Kept (fun k => k = g) w wr) := by
            obtain ⟨⟨P, S, R, x, h1, h2, h3, h4, h5, h6, h7⟩, h8⟩ := HI.out
            have : P = [] := List.eq_nil_of_length_eq_zero h2
            subst this
            exact ⟨x :: S, R, h1, by simp at h3 ⊢; omega, List.pairwise_cons.2 ⟨fun y hy => Nat.le_of_lt (h6 y hy), by simpa using h5⟩, h7, h8⟩
          clear HI V1
          go_wp2_with fail
          go_quiet (fail)
          go_wp2_with fail
          obtain ⟨Q, R, q1, q2, q3, q4, q5⟩ := HO.out
          exact ⟨⟨i + 1, by omega, by simp, Q, R, q1, q2, q3, q4, q5.drewN _⟩, by simp [intOf]; omega⟩
        | succ j =>
          obtain ⟨p, x, hjn, cp, cx, fp, fx, hyes, hno⟩ := InsAt.two HI.out.1
          have HK : Hid _ := HI.out.2
          have HY : Hid _ := hyes
          have HN : Hid _ := hno
          have LS := fun W : World => sLess_in W (x : Int) (p : Int)
          have hsub := wrap_nat (a := j) (Nat.le_trans (Nat.le_of_lt (Nat.lt_of_succ_lt hjn)) hn)
          have hsub2 := wrap_nat0 (a := j) (Nat.le_trans (Nat.le_of_lt (Nat.lt_of_succ_lt hjn)) hn)
          have d1 := cast_lt (Nat.lt_of_succ_lt hjn)
          have d2 := cast_lt1 hjn
          have d3 := cast_pos j
          have d4 : (0 : Int) ≤ (j : Int) + 1 := Int.le_of_lt d3
          clear HI V1 hyes hno
          by_cases hxp : x < p
          · have dx : decide ((x : Int) < (p : Int)) = true := decide_eq_true (cast_lt hxp)
            have fx2 : (wr.setCell ⟨g, j + 1, none⟩ (.int .i32 (p : Int))).frozen? ⟨g, j, none⟩ = false := (World.frozen?_setCell _ _ _ _).trans fp
            have cp2 : (wr.setCell ⟨g, j + 1, none⟩ (.int .i32 (p : Int))).cell? ⟨g, j, none⟩ = some (.int .i32 (p : Int)) := by
              rw [World.cell?_setCell_other _ _ _ _ (by intro e; cases e)]
              exact cp
            go_wp2_with fail
            go_quiet ((go_at_call 207; exact Calls.quiet_of_same ((LS _).mono fun _ _ x => ⟨x.1, x.2.symm⟩)))
            go_wp2_with fail
            refine wp_region_noPanic ?_
            refine wp_region_held_drew (S := fun _ => True) (by kernel_rfl) ?_ (fun hHeld => ?_)
            · exact trivial
            refine wpAnyH_take (i := 0) (oi := _) (v := ?_) rfl (by kernel_rfl) (by kernel_rfl) (by kernel_rfl) (fun _ _ _ h => h) (Or.inl ⟨by rfl, ?_⟩) (by assumption) ?_
            rotate_left 1
            · intro w hSw; (try dsimp only at hSw); go_simp; (try with_reducible rfl)
            try simp only [Act.put, List.getElem_toArray, List.getElem_cons_zero, List.setIfInBounds_toArray, List.set_cons_zero, List.set_cons_succ]
            refine wpAnyH_take (i := 1) (oi := _) (v := ?_) rfl (by kernel_rfl) (by kernel_rfl) (by kernel_rfl) (fun _ _ _ h => h) (Or.inl ⟨by rfl, ?_⟩) (by assumption) ?_
            rotate_left 1
            · intro w hSw; (try dsimp only at hSw); go_simp; (try with_reducible rfl)
            try simp only [Act.put, List.getElem_toArray, List.getElem_cons_succ, List.getElem_cons_zero, List.setIfInBounds_toArray, List.set_cons_zero, List.set_cons_succ]
            refine wpAnyH_take (i := 2) (oi := _) (v := ?_) rfl (by kernel_rfl) (by kernel_rfl) (by kernel_rfl) (fun _ _ _ h => h) (Or.inl ⟨by rfl, ?_⟩) (by assumption) ?_
            rotate_left 1
            · intro w hSw; (try dsimp only at hSw); go_simp; (try with_reducible rfl)
            try simp only [Act.put, List.getElem_toArray, List.getElem_cons_succ, List.getElem_cons_zero, List.setIfInBounds_toArray, List.set_cons_zero, List.set_cons_succ]
            refine wpAnyH_take (i := 3) (oi := _) (v := ?_) rfl (by kernel_rfl) (by kernel_rfl) (by kernel_rfl) (fun _ _ _ h => h) (Or.inl ⟨by rfl, ?_⟩) (by assumption) ?_
            rotate_left 1
            · intro w hSw; (try dsimp only at hSw); go_simp; (try with_reducible rfl)
            try simp only [Act.put, List.getElem_toArray, List.getElem_cons_succ, List.getElem_cons_zero, List.setIfInBounds_toArray, List.set_cons_zero, List.set_cons_succ]
            refine wpAnyH_take (i := 4) (oi := _) (v := ?_) rfl (by kernel_rfl) (by kernel_rfl) (by kernel_rfl) (fun _ _ _ h => h) (Or.inl ⟨by rfl, ?_⟩) (by assumption) ?_
            rotate_left 1
            · intro w hSw; (try dsimp only at hSw); go_simp; (try with_reducible rfl)
            try simp only [Act.put, List.getElem_toArray, List.getElem_cons_succ, List.getElem_cons_zero, List.setIfInBounds_toArray, List.set_cons_zero, List.set_cons_succ]
            refine wpAnyH_take (i := 5) (oi := _) (v := ?_) rfl (by kernel_rfl) (by kernel_rfl) (by kernel_rfl) (fun _ _ _ h => h) (Or.inl ⟨by rfl, ?_⟩) (by assumption) ?_
            rotate_left 1
            · intro w hSw; (try dsimp only at hSw); go_simp; (try with_reducible rfl)
            try simp only [Act.put, List.getElem_toArray, List.getElem_cons_succ, List.getElem_cons_zero, List.setIfInBounds_toArray, List.set_cons_zero, List.set_cons_succ]
            refine wpAnyH_take (i := 6) (oi := _) (v := ?_) rfl (by kernel_rfl) (by kernel_rfl) (by kernel_rfl) (fun _ _ _ h => h) (Or.inl ⟨by rfl, ?_⟩) (by assumption) ?_
            rotate_left 1
            · intro w hSw; (try dsimp only at hSw); go_simp; (try with_reducible rfl)
            try simp only [Act.put, List.getElem_toArray, List.getElem_cons_succ, List.getElem_cons_zero, List.setIfInBounds_toArray, List.set_cons_zero, List.set_cons_succ]
            refine wpAnyH_take (i := 7) (oi := _) (v := ?_) rfl (by kernel_rfl) (by kernel_rfl) (by kernel_rfl) (fun _ _ _ h => h) (Or.inl ⟨by rfl, ?_⟩) (by assumption) ?_
            rotate_left 1
            · intro w hSw; (try dsimp only at hSw); go_simp; (try with_reducible rfl)
            try simp only [Act.put, List.getElem_toArray, List.getElem_cons_succ, List.getElem_cons_zero, List.setIfInBounds_toArray, List.set_cons_zero, List.set_cons_succ]
            refine wpAnyH_take (i := 8) (oi := _) (v := ?_) rfl (by kernel_rfl) (by kernel_rfl) (by kernel_rfl) (fun _ _ _ h => h) (Or.inl ⟨by rfl, ?_⟩) (by assumption) ?_
            rotate_left 1
            · intro w hSw; (try dsimp only at hSw); go_simp; (try with_reducible rfl)
            try simp only [Act.put, List.getElem_toArray, List.getElem_cons_succ, List.getElem_cons_zero, List.setIfInBounds_toArray, List.set_cons_zero, List.set_cons_succ]
            refine wpAnyH_take (i := 10) (oi := _) (v := ?_) rfl (by kernel_rfl) (by kernel_rfl) (by kernel_rfl) (fun _ _ _ h => h) (Or.inl ⟨by rfl, ?_⟩) (by assumption) ?_
            rotate_left 1
            · intro w hSw; (try dsimp only at hSw); go_simp; (try with_reducible rfl)
            try simp only [Act.put, List.getElem_toArray, List.getElem_cons_succ, List.getElem_cons_zero, List.setIfInBounds_toArray, List.set_cons_zero, List.set_cons_succ]
            refine wpAnyH_take (i := 11) (oi := _) (v := ?_) rfl (by kernel_rfl) (by kernel_rfl) (by kernel_rfl) (fun _ _ _ h => h) (Or.inl ⟨by rfl, ?_⟩) (by assumption) ?_
            rotate_left 1
            · intro w hSw; (try dsimp only at hSw); go_simp; (try with_reducible rfl)
            try simp only [Act.put, List.getElem_toArray, List.getElem_cons_succ, List.getElem_cons_zero, List.setIfInBounds_toArray, List.set_cons_zero, List.set_cons_succ]
            refine wpAnyH_take (i := 12) (oi := _) (v := ?_) rfl (by kernel_rfl) (by kernel_rfl) (by kernel_rfl) (fun _ _ _ h => h) (Or.inl ⟨by rfl, ?_⟩) (by assumption) ?_
            rotate_left 1
            · intro w hSw; (try dsimp only at hSw); go_simp; (try with_reducible rfl)
            try simp only [Act.put, List.getElem_toArray, List.getElem_cons_succ, List.getElem_cons_zero, List.setIfInBounds_toArray, List.set_cons_zero, List.set_cons_succ]
            refine wpAnyH_ready (rs := [9, 13]) (by kernel_rfl) (by simp) ?_
            refine AllReadyH.cons rfl (fun K hK => ?_) (AllReadyH.cons rfl (fun K hK => ?_) AllReadyH.nil)
            try simp only [List.getElem_toArray, List.getElem_cons_succ, List.getElem_cons_zero]
            go_simp
            refine hK.out _ _ ?_ (fun hHeld => ?_)
            · exact trivial
            clear hK K
            try simp only [Act.put, List.getElem_toArray, List.getElem_cons_succ, List.getElem_cons_zero, List.setIfInBounds_toArray, List.set_cons_zero, List.set_cons_succ]
            refine wpAnyH_ready (rs := [13]) (by kernel_rfl) (by simp) ?_
            refine AllReadyH.cons rfl (fun K hK => ?_) AllReadyH.nil
            try simp only [List.getElem_toArray, List.getElem_cons_succ, List.getElem_cons_zero]
            go_simp
            refine hK.out _ _ ?_ (fun hHeld => ?_)
            · exact trivial
            clear hK K
            try simp only [Act.put, List.getElem_toArray, List.getElem_cons_succ, List.getElem_cons_zero, List.setIfInBounds_toArray, List.set_cons_zero, List.set_cons_succ]
            refine wpAnyH_take (i := 14) (oi := _) (v := ?_) rfl (by kernel_rfl) (by kernel_rfl) (by kernel_rfl) (fun _ _ _ h => h) (Or.inl ⟨by rfl, ?_⟩) (by assumption) ?_
            rotate_left 1
            · intro w hSw; (try dsimp only at hSw); go_simp; (try with_reducible rfl)
            try simp only [Act.put, List.getElem_toArray, List.getElem_cons_succ, List.getElem_cons_zero, List.setIfInBounds_toArray, List.set_cons_zero, List.set_cons_succ]
            refine wpAnyH_ready (rs := [15]) (by kernel_rfl) (by simp) ?_
            refine AllReadyH.cons rfl (fun K hK => ?_) AllReadyH.nil
            try simp only [List.getElem_toArray, List.getElem_cons_succ, List.getElem_cons_zero]
            go_simp
            refine hK.out _ _ ?_ (fun hHeld => ?_)
            · exact trivial
            clear hK K
            try simp only [Act.put, List.getElem_toArray, List.getElem_cons_succ, List.getElem_cons_zero, List.setIfInBounds_toArray, List.set_cons_zero, List.set_cons_succ]
            refine wpAnyH_take (i := 16) (oi := _) (v := ?_) rfl (by kernel_rfl) (by kernel_rfl) (by kernel_rfl) (fun _ _ _ h => h) (Or.inl ⟨by rfl, ?_⟩) (by assumption) ?_
            rotate_left 1
            · intro w hSw; (try dsimp only at hSw); go_simp; (try with_reducible rfl)
            try simp only [Act.put, List.getElem_toArray, List.getElem_cons_succ, List.getElem_cons_zero, List.setIfInBounds_toArray, List.set_cons_zero, List.set_cons_succ]
            refine wpAnyH_ready (rs := [17]) (by kernel_rfl) (by simp) ?_
            refine AllReadyH.cons rfl (fun K hK => ?_) AllReadyH.nil
            try simp only [List.getElem_toArray, List.getElem_cons_succ, List.getElem_cons_zero]
            go_simp
            refine hK.out _ _ ?_ (fun hHeld => ?_)
            · exact trivial
            clear hK K
            try simp only [Act.put, List.getElem_toArray, List.getElem_cons_succ, List.getElem_cons_zero, List.setIfInBounds_toArray, List.set_cons_zero, List.set_cons_succ]
            rotate_left 1
            try simp only [List.getElem_toArray, List.getElem_cons_succ, List.getElem_cons_zero]
            go_simp
            refine hK.out _ _ ?_ (fun hHeld => ?_)
            · exact trivial
            clear hK K
            try simp only [Act.put, List.getElem_toArray, List.getElem_cons_succ, List.getElem_cons_zero, List.setIfInBounds_toArray, List.set_cons_zero, List.set_cons_succ]
            refine wpAnyH_ready (rs := [9]) (by kernel_rfl) (by simp) ?_
            refine AllReadyH.cons rfl (fun K hK => ?_) AllReadyH.nil
            try simp only [List.getElem_toArray, List.getElem_cons_succ, List.getElem_cons_zero]
            go_simp
            refine hK.out _ _ ?_ (fun hHeld => ?_)
            · exact trivial
            clear hK K
            try simp only [Act.put, List.getElem_toArray, List.getElem_cons_succ, List.getElem_cons_zero, List.setIfInBounds_toArray, List.set_cons_zero, List.set_cons_succ]
            refine wpAnyH_take (i := 14) (oi := _) (v := ?_) rfl (by kernel_rfl) (by kernel_rfl) (by kernel_rfl) (fun _ _ _ h => h) (Or.inl ⟨by rfl, ?_⟩) (by assumption) ?_
            rotate_left 1
            · intro w hSw; (try dsimp only at hSw); go_simp; (try with_reducible rfl)
            try simp only [Act.put, List.getElem_toArray, List.getElem_cons_succ, List.getElem_cons_zero, List.setIfInBounds_toArray, List.set_cons_zero, List.set_cons_succ]
            refine wpAnyH_ready (rs := [15]) (by kernel_rfl) (by simp) ?_
            refine AllReadyH.cons rfl (fun K hK => ?_) AllReadyH.nil
            try simp only [List.getElem_toArray, List.getElem_cons_succ, List.getElem_cons_zero]
            go_simp
            refine hK.out _ _ ?_ (fun hHeld => ?_)
            · exact trivial
            clear hK K
            try simp only [Act.put, List.getElem_toArray, List.getElem_cons_succ, List.getElem_cons_zero, List.setIfInBounds_toArray, List.set_cons_zero, List.set_cons_succ]
            refine wpAnyH_take (i := 16) (oi := _) (v := ?_) rfl (by kernel_rfl) (by kernel_rfl) (by kernel_rfl) (fun _ _ _ h => h) (Or.inl ⟨by rfl, ?_⟩) (by assumption) ?_
            rotate_left 1
            · intro w hSw; (try dsimp only at hSw); go_simp; (try with_reducible rfl)
            try simp only [Act.put, List.getElem_toArray, List.getElem_cons_succ, List.getElem_cons_zero, List.setIfInBounds_toArray, List.set_cons_zero, List.set_cons_succ]
            refine wpAnyH_ready (rs := [17]) (by kernel_rfl) (by simp) ?_
            refine AllReadyH.cons rfl (fun K hK => ?_) AllReadyH.nil
            try simp only [List.getElem_toArray, List.getElem_cons_succ, List.getElem_cons_zero]
            go_simp
            refine hK.out _ _ ?_ (fun hHeld => ?_)
            · exact trivial
            clear hK K
            try simp only [Act.put, List.getElem_toArray, List.getElem_cons_succ, List.getElem_cons_zero, List.setIfInBounds_toArray, List.set_cons_zero, List.set_cons_succ]
            rotate_left 1
            all_goals refine wpAnyH_done (by kernel_rfl) (NoPanic.normal ?_) _
            all_goals
              try simp only [Act.put, List.getElem_toArray, List.getElem_cons_succ, List.getElem_cons_zero, List.setIfInBounds_toArray, List.set_cons_succ, List.set_cons_zero]
              go_wp2_with fail
              refine ⟨⟨j, by omega, by simp, HY.out hxp (nq + 1), ?_⟩, by simp [intOf]⟩
              exact ((HK.out.drewN (nq + 1)).setCell (p := ⟨g, j + 1, none⟩) rfl _).setCell (p := ⟨g, j, none⟩) rfl _
          · have dx : decide ((x : Int) < (p : Int)) = false := decide_eq_false (fun h => hxp (by omega))
            go_wp2_with fail
            go_quiet ((go_at_call 207; exact Calls.quiet_of_same ((LS _).mono fun _ _ x => ⟨x.1, x.2.symm⟩)))
            go_wp2_with fail
            obtain ⟨Q, R, q1, q2, q3, q4⟩ := HN.out hxp
            exact ⟨⟨i + 1, by omega, by simp, Q, R, q1, by rw [q2]; omega, q3, q4, HK.out.drewN _⟩, by simp [intOf]; omega⟩
    · have di : decide ((i : Int) < (n : Int)) = false := decide_eq_false (by omega)
      clear V0
      go_wp2_with fail
      refine ⟨rfl, .tuple #[], by simp [results, Tryz.results201], rfl, ?_⟩
      obtain ⟨Q, R, h1, h2, h3, h4, h5⟩ := HV.out
      have hl := h4.length_eq
      rw [List.length_append, hln] at hl
      have : R = [] := List.eq_nil_of_length_eq_zero (by omega)
      subst this
      rw [List.append_nil] at h1 h4
      exact ⟨Q, h1, h4, h3, h5⟩

end Go.Proofs.YtlehlgipbhfioaaGreat
