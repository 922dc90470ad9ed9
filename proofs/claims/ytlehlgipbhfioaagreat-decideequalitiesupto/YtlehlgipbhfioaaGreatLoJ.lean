/- Package logic: row, or, and. -/
import Derived.Test.YtlehlgipbhfioaaGreatLoI
import Derived.Deep.RegionWith
namespace Go.Proofs.YtlehlgipbhfioaaGreat
open Go.RowKit Go.Maps

theorem put_other {w : World} {b c n : Nat} {f : Nat → Value} (h : w.rowIs b 36 n f) (hne : b ≠ c) (v0 v1 v2 v3 : Value) : (put4 w c v0 v1 v2 v3).rowIs b 36 n f := by
  have K : Kept1 c w (put4 w c v0 v1 v2 v3) := Kept1.set (Kept1.set (Kept1.set (Kept1.set (Kept.refl _ w) 0 v0) 1 v1) 2 v2) 3 v3
  exact h.of_block (K.block b h.lt hne)
theorem put_keepA {A : Nat → Prop} {w : World} {b : Nat} (hb : ¬ A b) (v0 v1 v2 v3 : Value) : FKeepA A w (put4 w b v0 v1 v2 v3) :=
  (((FKeepA.setCell w hb 0 v0).trans (FKeepA.setCell _ hb 1 v1)).trans (FKeepA.setCell _ hb 2 v2)).trans (FKeepA.setCell _ hb 3 v3)
theorem put_size (w : World) (b : Nat) (v0 v1 v2 v3 : Value) : (put4 w b v0 v1 v2 v3).heap.size = w.heap.size := by simp [put4, World.setCell]

/-- What row goes round with: the formula so far lies in the box bf. -/
structure RowAt (w W : World) (base r p : Nat) (ev ev' : Value) (nb fb : Nat) (s : ByteArray) (k d : Nat) (l : List Tm) (bf : Nat) (op x y : Int) (a : Option Addr) (n cap : Nat) (g : Fo) : Prop where
  pb : PB W base r p ev' nb fb s k d l
  box : W.rowIs bf 36 4 (frm (.int .i64 op) (.int .i64 x) (.int .i64 y) (.slice a n cap))
  res : W.rowIs w.heap.size 36 4 (frm (.int .i64 0) (.int .i64 0) (.int .i64 0) (.slice none 0 0))
  val : FValA (fun k => w.heap.size + 1 ≤ k ∧ k ≠ bf) W (.agg #[.int .i64 op, .int .i64 x, .int .i64 y, .slice a n cap]) g
  up : w.heap.size < bf
  grew : Grew (fun k => k = r) p nb fb w ev W ev'

set_option maxRecDepth 100000 in
set_option maxHeartbeats 2000000 in
theorem row_or (f : Nat) (H : ∀ g, g ≤ f → At 153 (1 + 1) g) (w : World) (base r p : Nat) (ev : Value) (nb fb : Nat) (s : ByteArray) (i d : Nat) (l : List Tm) (h : PB w base r p ev nb fb s i d l) (hf : 6 * (s.size - i) + 5 ≤ f + 1 + 1) (hd : d ≤ 20) :
    Calls Tryz.prog 152 #[.pointer (some ⟨r, 0, none⟩), .int .i64 3, .int .u8 124, .func (.func 153) #[.pointer (some ⟨r, 0, none⟩)] #[]] w (FoPost base r p nb fb s d w ev (gp s (f + 1) 1 d i l)) := by
  have hle := h.lp.le
  have hrw := h.lp.row.lt
  have A1 := fun (o : Obj) => h.kept0 (Kept.alloc (Kept.refl _ w) o)
  have C1 := fun o => H f (Nat.le_refl _) (w.alloc o) base r p ev nb fb s i d l (A1 o).1 (by omega) hd
  rw [gp, if_neg (by omega), if_neg (by omega)]
  go_enter Tryz.func152, Tryz.ntmps152
  cases hg : gp s f (1 + 1) d i l with
  | bad e0 q0 l0 =>
    rw [hg] at C1
    go_wp2_with (first | (go_at_call 153; refine (C1 _).mono ?_; rintro e w5 ⟨rfl, ev5, k5, d5, P5, G5⟩))
    exact ⟨rfl, rfl, ev5, k5, d5, P5, (A1 _).2.trans G5⟩
  | ok g0 k0 l0 =>
    rw [hg] at C1
    simp only [Res.bind]
    obtain ⟨hk0, hk1⟩ := (gp_ok s f).1 (1 + 1) d i l g0 k0 l0 hle hg
    go_wp2_with (first | (go_at_call 153; refine (C1 _).mono ?_; rintro e w5 ⟨v5, rfl, V5, ev5, P5, G5⟩; obtain ⟨op5, x5, y5, a5, n5, cap5, rfl⟩ := V5.form))
    have hsz : w.heap.size + 1 ≤ w5.heap.size := by have := G5.kept.size; simp at this; omega
    have Q5 := P5.kept0 (Kept.alloc (Kept.refl _ w5) (.cells #[.int .i64 op5, .int .i64 x5, .int .i64 y5, .slice a5 n5 cap5] 36))
    have R0 : RowAt w (w5.alloc (.cells #[.int .i64 op5, .int .i64 x5, .int .i64 y5, .slice a5 n5 cap5] 36)) base r p ev ev5 nb fb s k0 d l0 w5.heap.size op5 x5 y5 a5 n5 cap5 g0 := ⟨Q5.1, made_form w5 _ _ _ _, rowIs_keep (((A1 _).1.fkeep G5 w.heap.size).trans (P5.fkeep Q5.2 _)) (Nat.le_refl _) (made_form w _ _ _ _), ((FValA.lt V5).mono (fun k hk => ⟨by have := hk.1; simp at this; exact this, by have := hk.2; omega⟩)).keep ((P5.fkeep Q5.2 0).toA _), by omega, ((A1 _).2.trans G5).trans Q5.2⟩
    generalize w5.alloc (.cells #[.int .i64 op5, .int .i64 x5, .int .i64 y5, .slice a5 n5 cap5] 36) = w6 at R0 ⊢
    have hbf : w.heap.size < w5.heap.size := by omega
    generalize w5.heap.size = bf at R0 hbf ⊢
    clear Q5 P5 G5 V5 C1 A1 h hsz
    go_loopw [] (fun W => ∃ (gf k' : Nat) (l' : List Tm) (ev' : Value) (op x y : Int) (a : Option Addr) (n cap : Nat) (g : Fo), RowAt w W base r p ev ev' nb fb s k' d l' bf op x y a n cap g ∧ Hid (gf ≤ f ∧ gl s f 1 d k0 l0 g0 = gl s gf 1 d k' l' g ∧ 6 * (s.size - k') + 5 ≤ gf)) (fun W => s.size - (match W.cell? ⟨r, 2, none⟩ with | some v => (intOf v).toNat | none => 0))
    case atStart => exact ⟨f, k0, l0, ev5, op5, x5, y5, a5, n5, cap5, g0, R0, ⟨Nat.le_refl _, rfl, by omega⟩⟩
    case round =>
      obtain ⟨gf, k', l', ev', op, x, y, a, n, cap, g, R, HG⟩ := hrel
      clear R0
      obtain ⟨hgf, hgl, hfu⟩ := HG.out
      obtain ⟨gf, rfl⟩ : ∃ g', gf = g' + 1 := ⟨gf - 1, by omega⟩
      have hle' := R.pb.lp.le
      have NX := next_at wr base r p ev' nb fb s k' d l' R.pb
      rw [gl] at hgl
      by_cases hb : byt s k' = 124
      · rw [if_pos (show byt s k' = sgn 1 from hb)] at hgl
        have hs := stands_of hb (by omega)
        have hi2 := byt_in hb (by omega)
        have hbl := bl_le (s := s) (i := k' + 1) (by omega)
        have hbg := bl_ge s (k' + 1)
        rw [hb] at NX
        have MU := fun w3 (P3 : PB w3 base r p ev' nb fb s k' d l') => must_at w3 base r p ev' nb fb s k' d l' P3 124 hs
        have PT := fun w4 (P4 : PB w4 base r p ev' nb fb s (bl s (k' + 1)) d l') => H gf (by omega) w4 base r p ev' nb fb s (bl s (k' + 1)) d l' P4 (by omega) hd
        cases hp : gp s gf (1 + 1) d (bl s (k' + 1)) l' with
        | bad e0 q0 l1 =>
          rw [hp] at PT hgl
          simp only [Res.bind] at hgl
          have HR : Hid (_ ∧ _) := And.intro R hgl
          clear R hgl HG
          go_wp2_with (first | (go_at_call 110; refine NX.mono ?_; rintro e w3 ⟨rfl, P3, G3⟩; have M3 := MU w3 P3) | (go_at_call 112; refine M3.mono ?_; rintro e w4 ⟨rfl, P4, G4⟩))
          have hP4 : ∀ m, Calls Tryz.prog 153 #[.pointer (some ⟨r, 0, none⟩)] (w4.drewN m) fun e w' => e = .panicked [{ v := grefusalV e0 q0, recovered := false }] ∧ FoPost base r p nb fb s d w ev (gl s f 1 d k0 l0 g0) e w' := fun m => (PT _ (P4.drewN m)).mono (by
            rintro e w' ⟨h1, ev7, k7, d7, P7, G7⟩
            refine ⟨h1, ?_⟩
            rw [HR.out.2]
            exact ⟨h1, ev7, k7, d7, P7, (((HR.out.1.grew.trans G3).trans G4).trans ((Grew.refl _ _ _ _ _ _).drewN m)).trans G7⟩)
          have B4 := rowIs_keep ((HR.out.1.pb.fkeep G3 0).trans (P3.fkeep G4 0)) (Nat.zero_le _) HR.out.1.box
          obtain ⟨z0, z1, z2, z3⟩ := form_cells B4
          clear PT MU M3 NX H
          go_region_with (go_at_call 153; refine (hP4 1).mono ?_; rintro e w7 ⟨rfl, hP⟩; refine way_out w7 (And.intro rfl hP) ?_)
          all_goals trivial
        | ok b k2 l2 =>
          rw [hp] at PT hgl
          simp only [Res.bind] at hgl
          obtain ⟨hk2, hk3⟩ := (gp_ok s gf).1 (1 + 1) d (bl s (k' + 1)) l' b k2 l2 hbl hp
          have HR : Hid (_ ∧ _) := And.intro R hgl
          clear R hgl HG
          go_wp2_with (first | (go_at_call 110; refine NX.mono ?_; rintro e w3 ⟨rfl, P3, G3⟩; have M3 := MU w3 P3) | (go_at_call 112; refine M3.mono ?_; rintro e w4 ⟨rfl, P4, G4⟩))
          have K4 := ((HR.out.1.pb.fkeep G3 0).trans (P3.fkeep G4 0))
          have B4 := rowIs_keep K4 (Nat.zero_le _) HR.out.1.box
          obtain ⟨z0, z1, z2, z3⟩ := form_cells B4
          have HB4 : Hid (_ ∧ _) := And.intro B4 K4
          have hP4 := fun m => PT _ (P4.drewN m)
          have HP4 : Hid (PB w4 base r p ev' nb fb s (bl s (k' + 1)) d l') := P4
          clear PT MU M3 NX H P4 K4 B4
          go_region_with (go_at_call 153; refine (hP4 1).mono ?_; rintro e w7 ⟨v7, rfl, V7, ev7, P7, G7⟩; obtain ⟨op7, x7, y7, a7, n7, cap7, rfl⟩ := V7.form; have B7 := rowIs_keep ((HP4.out.drewN 1).fkeep G7 0) (Nat.zero_le _) HB4.out.1; obtain ⟨t0, t1, t2, t3⟩ := form_cells B7; have y0 := World.rowIs.frozen B7 0; have y1 := World.rowIs.frozen B7 1; have y2 := World.rowIs.frozen B7 2; have y3 := World.rowIs.frozen B7 3; have hlt := World.rowIs.lt B7)
          all_goals
            have R := HR.out.1
            have K7 := (HB4.out.2.trans ((HP4.out.drewN 1).fkeep G7 0))
            have h7 : bf < w7.heap.size := hlt
            have VA := R.val.keep (K7.toA _)
            have VB : FValA (fun k => w.heap.size + 1 ≤ k ∧ k ≠ bf) w7 _ _ := FValA.mono (fun k hk => ⟨by have h1 : w4.heap.size ≤ k := hk; have h2 := World.rowIs.lt HB4.out.1; omega, by have h1 : w4.heap.size ≤ k := hk; have h2 := World.rowIs.lt HB4.out.1; omega⟩) V7
            have P8 := P7.put4 B7 (.int .i64 3) (.int .i64 0) (.int .i64 0) (.slice (some ⟨w7.heap.size, 0, none⟩) 2 2)
            have F8 := put_form B7 (.int .i64 3) (.int .i64 0) (.int .i64 0) (.slice (some ⟨w7.heap.size, 0, none⟩) 2 2)
            have E8 := rowIs_keep K7 (Nat.zero_le _) R.res
            have hne : w.heap.size ≠ bf := by have := R.up; omega
            have E9 := put_other E8 hne (.int .i64 3) (.int .i64 0) (.int .i64 0) (.slice (some ⟨w7.heap.size, 0, none⟩) 2 2)
            have G8 := (((R.grew.trans G3).trans G4).trans (((Grew.refl _ _ _ _ _ _).drewN 1).trans G7)).put4 (Nat.le_of_lt R.up) (.int .i64 3) (.int .i64 0) (.int .i64 0) (.slice (some ⟨w7.heap.size, 0, none⟩) 2 2)
            have KP : FKeepA (fun k => w.heap.size + 1 ≤ k ∧ k ≠ bf) w7 _ := put_keepA (A := fun k => w.heap.size + 1 ≤ k ∧ k ≠ bf) (w := w7) (b := bf) (fun x => x.2 rfl) (.int .i64 3) (.int .i64 0) (.int .i64 0) (.slice (some ⟨w7.heap.size, 0, none⟩) 2 2)
            have hz := put_size w7 bf (.int .i64 3) (.int .i64 0) (.int .i64 0) (.slice (some ⟨w7.heap.size, 0, none⟩) 2 2)
            have V8 := FVal.pair (VA.keep KP) (VB.keep KP) 3 ⟨by rw [hz]; have := R.up; omega, by rw [hz]; omega⟩
            rw [hz] at V8
            unfold put4 at P8 F8 E9 G8 V8
            clear t0 t1 t2 t3 y0 y1 y2 y3 z0 z1 z2 z3 hP4 KP hz
            generalize ((((w7).setCell ⟨bf, 0, none⟩ (.int .i64 3)).setCell ⟨bf, 1, none⟩ (.int .i64 0)).setCell ⟨bf, 2, none⟩ (.int .i64 0)).setCell ⟨bf, 3, none⟩ (.slice (some ⟨w7.heap.size, 0, none⟩) 2 2) = w8 at P8 F8 E9 G8 V8 ⊢
            have P9 := P8.kept0 (Kept.alloc (Kept.refl _ w8) (.cells #[.int .i64 op, .int .i64 x, .int .i64 y, .slice a n cap, .int .i64 op7, .int .i64 x7, .int .i64 y7, .slice a7 n7 cap7] 36))
            have KA := FKeep.alloc 0 w8 (.cells #[.int .i64 op, .int .i64 x, .int .i64 y, .slice a n cap, .int .i64 op7, .int .i64 x7, .int .i64 y7, .slice a7 n7 cap7] 36)
            have R9 : RowAt w (w8.alloc (.cells #[.int .i64 op, .int .i64 x, .int .i64 y, .slice a n cap, .int .i64 op7, .int .i64 x7, .int .i64 y7, .slice a7 n7 cap7] 36)) base r p ev ev7 nb fb s k2 d l2 bf 3 0 0 (some ⟨w7.heap.size, 0, none⟩) 2 2 (.two 3 g b) := ⟨P9.1, rowIs_keep KA (Nat.zero_le _) F8, rowIs_keep KA (Nat.zero_le _) E9, V8, R.up, G8.trans P9.2⟩
            generalize w8.alloc (.cells #[.int .i64 op, .int .i64 x, .int .i64 y, .slice a n cap, .int .i64 op7, .int .i64 x7, .int .i64 y7, .slice a7 n7 cap7] 36) = w9 at R9 ⊢
            go_wp2_with fail
            refine ⟨⟨gf, k2, l2, ev7, 3, 0, 0, _, 2, 2, _, R9, ⟨by omega, HR.out.2, by omega⟩⟩, ?_⟩
            rw [HR.out.1.pb.lp.c2, R9.pb.lp.c2]
            simp only [intOf]
            omega
      · rw [if_neg (show ¬ byt s k' = sgn 1 from hb)] at hgl
        have dne : ((byt s k' : Int) == 124) = false := by simp; omega
        have HR : Hid (_ ∧ _) := And.intro R hgl
        clear R hgl HG H
        go_wp2_with (first | (go_at_call 110; refine NX.mono ?_; rintro e w3 ⟨rfl, P3, G3⟩; have B3 := rowIs_keep (HR.out.1.pb.fkeep G3 0) (Nat.zero_le _) HR.out.1.box; have F3 := rowIs_keep (HR.out.1.pb.fkeep G3 0) (Nat.zero_le _) HR.out.1.res; obtain ⟨t0, t1, t2, t3⟩ := form_cells B3; obtain ⟨z0, z1, z2, z3⟩ := form_cells F3; have y0 := World.rowIs.frozen F3 0; have y1 := World.rowIs.frozen F3 1; have y2 := World.rowIs.frozen F3 2; have y3 := World.rowIs.frozen F3 3))
        have N := fin_box P3 F3 ((HR.out.1.val.keep ((HR.out.1.pb.fkeep G3 0).toA _)).mono (fun k hk => hk.1)) (HR.out.1.grew.trans G3) (Kept.refl _ _)
        unfold put4 at N
        clear z0 z1 z2 z3 y0 y1 y2 y3 t0 t1 t2 t3
        generalize ((((w3).setCell ⟨w.heap.size, 0, none⟩ (.int .i64 op)).setCell ⟨w.heap.size, 1, none⟩ (.int .i64 x)).setCell ⟨w.heap.size, 2, none⟩ (.int .i64 y)).setCell ⟨w.heap.size, 3, none⟩ (.slice a n cap) = w8 at N ⊢
        obtain ⟨z0, z1, z2, z3, V8, P8, G8⟩ := N
        refine ⟨rfl, .agg #[.int .i64 op, .int .i64 x, .int .i64 y, .slice a n cap], by simp [results, Tryz.results152, go_sem, z0, z1, z2, z3], ?_⟩
        rw [HR.out.2]
        exact ⟨_, rfl, V8, ev', P8, G8⟩

set_option maxRecDepth 100000 in
set_option maxHeartbeats 2000000 in
theorem row_and (f : Nat) (H : ∀ g, g ≤ f → At 194 (2 + 1) g) (w : World) (base r p : Nat) (ev : Value) (nb fb : Nat) (s : ByteArray) (i d : Nat) (l : List Tm) (h : PB w base r p ev nb fb s i d l) (hf : 6 * (s.size - i) + 5 ≤ f + 1 + 2) (hd : d ≤ 20) :
    Calls Tryz.prog 152 #[.pointer (some ⟨r, 0, none⟩), .int .i64 2, .int .u8 38, .func (.func 194) #[.pointer (some ⟨r, 0, none⟩)] #[]] w (FoPost base r p nb fb s d w ev (gp s (f + 1) 2 d i l)) := by
  have hle := h.lp.le
  have hrw := h.lp.row.lt
  have A1 := fun (o : Obj) => h.kept0 (Kept.alloc (Kept.refl _ w) o)
  have C1 := fun o => H f (Nat.le_refl _) (w.alloc o) base r p ev nb fb s i d l (A1 o).1 (by omega) hd
  rw [gp, if_neg (by omega), if_neg (by omega)]
  go_enter Tryz.func152, Tryz.ntmps152
  cases hg : gp s f (2 + 1) d i l with
  | bad e0 q0 l0 =>
    rw [hg] at C1
    go_wp2_with (first | (go_at_call 194; refine (C1 _).mono ?_; rintro e w5 ⟨rfl, ev5, k5, d5, P5, G5⟩))
    exact ⟨rfl, rfl, ev5, k5, d5, P5, (A1 _).2.trans G5⟩
  | ok g0 k0 l0 =>
    rw [hg] at C1
    simp only [Res.bind]
    obtain ⟨hk0, hk1⟩ := (gp_ok s f).1 (2 + 1) d i l g0 k0 l0 hle hg
    go_wp2_with (first | (go_at_call 194; refine (C1 _).mono ?_; rintro e w5 ⟨v5, rfl, V5, ev5, P5, G5⟩; obtain ⟨op5, x5, y5, a5, n5, cap5, rfl⟩ := V5.form))
    have hsz : w.heap.size + 1 ≤ w5.heap.size := by have := G5.kept.size; simp at this; omega
    have Q5 := P5.kept0 (Kept.alloc (Kept.refl _ w5) (.cells #[.int .i64 op5, .int .i64 x5, .int .i64 y5, .slice a5 n5 cap5] 36))
    have R0 : RowAt w (w5.alloc (.cells #[.int .i64 op5, .int .i64 x5, .int .i64 y5, .slice a5 n5 cap5] 36)) base r p ev ev5 nb fb s k0 d l0 w5.heap.size op5 x5 y5 a5 n5 cap5 g0 := ⟨Q5.1, made_form w5 _ _ _ _, rowIs_keep (((A1 _).1.fkeep G5 w.heap.size).trans (P5.fkeep Q5.2 _)) (Nat.le_refl _) (made_form w _ _ _ _), ((FValA.lt V5).mono (fun k hk => ⟨by have := hk.1; simp at this; exact this, by have := hk.2; omega⟩)).keep ((P5.fkeep Q5.2 0).toA _), by omega, ((A1 _).2.trans G5).trans Q5.2⟩
    generalize w5.alloc (.cells #[.int .i64 op5, .int .i64 x5, .int .i64 y5, .slice a5 n5 cap5] 36) = w6 at R0 ⊢
    have hbf : w.heap.size < w5.heap.size := by omega
    generalize w5.heap.size = bf at R0 hbf ⊢
    clear Q5 P5 G5 V5 C1 A1 h hsz
    go_loopw [] (fun W => ∃ (gf k' : Nat) (l' : List Tm) (ev' : Value) (op x y : Int) (a : Option Addr) (n cap : Nat) (g : Fo), RowAt w W base r p ev ev' nb fb s k' d l' bf op x y a n cap g ∧ Hid (gf ≤ f ∧ gl s f 2 d k0 l0 g0 = gl s gf 2 d k' l' g ∧ 6 * (s.size - k') + 5 ≤ gf)) (fun W => s.size - (match W.cell? ⟨r, 2, none⟩ with | some v => (intOf v).toNat | none => 0))
    case atStart => exact ⟨f, k0, l0, ev5, op5, x5, y5, a5, n5, cap5, g0, R0, ⟨Nat.le_refl _, rfl, by omega⟩⟩
    case round =>
      obtain ⟨gf, k', l', ev', op, x, y, a, n, cap, g, R, HG⟩ := hrel
      clear R0
      obtain ⟨hgf, hgl, hfu⟩ := HG.out
      obtain ⟨gf, rfl⟩ : ∃ g', gf = g' + 1 := ⟨gf - 1, by omega⟩
      have hle' := R.pb.lp.le
      have NX := next_at wr base r p ev' nb fb s k' d l' R.pb
      rw [gl] at hgl
      by_cases hb : byt s k' = 38
      · rw [if_pos (show byt s k' = sgn 2 from hb)] at hgl
        have hs := stands_of hb (by omega)
        have hi2 := byt_in hb (by omega)
        have hbl := bl_le (s := s) (i := k' + 1) (by omega)
        have hbg := bl_ge s (k' + 1)
        rw [hb] at NX
        have MU := fun w3 (P3 : PB w3 base r p ev' nb fb s k' d l') => must_at w3 base r p ev' nb fb s k' d l' P3 38 hs
        have PT := fun w4 (P4 : PB w4 base r p ev' nb fb s (bl s (k' + 1)) d l') => H gf (by omega) w4 base r p ev' nb fb s (bl s (k' + 1)) d l' P4 (by omega) hd
        cases hp : gp s gf (2 + 1) d (bl s (k' + 1)) l' with
        | bad e0 q0 l1 =>
          rw [hp] at PT hgl
          simp only [Res.bind] at hgl
          have HR : Hid (_ ∧ _) := And.intro R hgl
          clear R hgl HG
          go_wp2_with (first | (go_at_call 110; refine NX.mono ?_; rintro e w3 ⟨rfl, P3, G3⟩; have M3 := MU w3 P3) | (go_at_call 112; refine M3.mono ?_; rintro e w4 ⟨rfl, P4, G4⟩))
          have hP4 : ∀ m, Calls Tryz.prog 194 #[.pointer (some ⟨r, 0, none⟩)] (w4.drewN m) fun e w' => e = .panicked [{ v := grefusalV e0 q0, recovered := false }] ∧ FoPost base r p nb fb s d w ev (gl s f 2 d k0 l0 g0) e w' := fun m => (PT _ (P4.drewN m)).mono (by
            rintro e w' ⟨h1, ev7, k7, d7, P7, G7⟩
            refine ⟨h1, ?_⟩
            rw [HR.out.2]
            exact ⟨h1, ev7, k7, d7, P7, (((HR.out.1.grew.trans G3).trans G4).trans ((Grew.refl _ _ _ _ _ _).drewN m)).trans G7⟩)
          have B4 := rowIs_keep ((HR.out.1.pb.fkeep G3 0).trans (P3.fkeep G4 0)) (Nat.zero_le _) HR.out.1.box
          obtain ⟨z0, z1, z2, z3⟩ := form_cells B4
          clear PT MU M3 NX H
          go_region_with (go_at_call 194; refine (hP4 1).mono ?_; rintro e w7 ⟨rfl, hP⟩; refine way_out w7 (And.intro rfl hP) ?_)
          all_goals trivial
        | ok b k2 l2 =>
          rw [hp] at PT hgl
          simp only [Res.bind] at hgl
          obtain ⟨hk2, hk3⟩ := (gp_ok s gf).1 (2 + 1) d (bl s (k' + 1)) l' b k2 l2 hbl hp
          have HR : Hid (_ ∧ _) := And.intro R hgl
          clear R hgl HG
          go_wp2_with (first | (go_at_call 110; refine NX.mono ?_; rintro e w3 ⟨rfl, P3, G3⟩; have M3 := MU w3 P3) | (go_at_call 112; refine M3.mono ?_; rintro e w4 ⟨rfl, P4, G4⟩))
          have K4 := ((HR.out.1.pb.fkeep G3 0).trans (P3.fkeep G4 0))
          have B4 := rowIs_keep K4 (Nat.zero_le _) HR.out.1.box
          obtain ⟨z0, z1, z2, z3⟩ := form_cells B4
          have HB4 : Hid (_ ∧ _) := And.intro B4 K4
          have hP4 := fun m => PT _ (P4.drewN m)
          have HP4 : Hid (PB w4 base r p ev' nb fb s (bl s (k' + 1)) d l') := P4
          clear PT MU M3 NX H P4 K4 B4
          go_region_with (go_at_call 194; refine (hP4 1).mono ?_; rintro e w7 ⟨v7, rfl, V7, ev7, P7, G7⟩; obtain ⟨op7, x7, y7, a7, n7, cap7, rfl⟩ := V7.form; have B7 := rowIs_keep ((HP4.out.drewN 1).fkeep G7 0) (Nat.zero_le _) HB4.out.1; obtain ⟨t0, t1, t2, t3⟩ := form_cells B7; have y0 := World.rowIs.frozen B7 0; have y1 := World.rowIs.frozen B7 1; have y2 := World.rowIs.frozen B7 2; have y3 := World.rowIs.frozen B7 3; have hlt := World.rowIs.lt B7)
          all_goals
            have R := HR.out.1
            have K7 := (HB4.out.2.trans ((HP4.out.drewN 1).fkeep G7 0))
            have h7 : bf < w7.heap.size := hlt
            have VA := R.val.keep (K7.toA _)
            have VB : FValA (fun k => w.heap.size + 1 ≤ k ∧ k ≠ bf) w7 _ _ := FValA.mono (fun k hk => ⟨by have h1 : w4.heap.size ≤ k := hk; have h2 := World.rowIs.lt HB4.out.1; omega, by have h1 : w4.heap.size ≤ k := hk; have h2 := World.rowIs.lt HB4.out.1; omega⟩) V7
            have P8 := P7.put4 B7 (.int .i64 2) (.int .i64 0) (.int .i64 0) (.slice (some ⟨w7.heap.size, 0, none⟩) 2 2)
            have F8 := put_form B7 (.int .i64 2) (.int .i64 0) (.int .i64 0) (.slice (some ⟨w7.heap.size, 0, none⟩) 2 2)
            have E8 := rowIs_keep K7 (Nat.zero_le _) R.res
            have hne : w.heap.size ≠ bf := by have := R.up; omega
            have E9 := put_other E8 hne (.int .i64 2) (.int .i64 0) (.int .i64 0) (.slice (some ⟨w7.heap.size, 0, none⟩) 2 2)
            have G8 := (((R.grew.trans G3).trans G4).trans (((Grew.refl _ _ _ _ _ _).drewN 1).trans G7)).put4 (Nat.le_of_lt R.up) (.int .i64 2) (.int .i64 0) (.int .i64 0) (.slice (some ⟨w7.heap.size, 0, none⟩) 2 2)
            have KP : FKeepA (fun k => w.heap.size + 1 ≤ k ∧ k ≠ bf) w7 _ := put_keepA (A := fun k => w.heap.size + 1 ≤ k ∧ k ≠ bf) (w := w7) (b := bf) (fun x => x.2 rfl) (.int .i64 2) (.int .i64 0) (.int .i64 0) (.slice (some ⟨w7.heap.size, 0, none⟩) 2 2)
            have hz := put_size w7 bf (.int .i64 2) (.int .i64 0) (.int .i64 0) (.slice (some ⟨w7.heap.size, 0, none⟩) 2 2)
            have V8 := FVal.pair (VA.keep KP) (VB.keep KP) 2 ⟨by rw [hz]; have := R.up; omega, by rw [hz]; omega⟩
            rw [hz] at V8
            unfold put4 at P8 F8 E9 G8 V8
            clear t0 t1 t2 t3 y0 y1 y2 y3 z0 z1 z2 z3 hP4 KP hz
            generalize ((((w7).setCell ⟨bf, 0, none⟩ (.int .i64 2)).setCell ⟨bf, 1, none⟩ (.int .i64 0)).setCell ⟨bf, 2, none⟩ (.int .i64 0)).setCell ⟨bf, 3, none⟩ (.slice (some ⟨w7.heap.size, 0, none⟩) 2 2) = w8 at P8 F8 E9 G8 V8 ⊢
            have P9 := P8.kept0 (Kept.alloc (Kept.refl _ w8) (.cells #[.int .i64 op, .int .i64 x, .int .i64 y, .slice a n cap, .int .i64 op7, .int .i64 x7, .int .i64 y7, .slice a7 n7 cap7] 36))
            have KA := FKeep.alloc 0 w8 (.cells #[.int .i64 op, .int .i64 x, .int .i64 y, .slice a n cap, .int .i64 op7, .int .i64 x7, .int .i64 y7, .slice a7 n7 cap7] 36)
            have R9 : RowAt w (w8.alloc (.cells #[.int .i64 op, .int .i64 x, .int .i64 y, .slice a n cap, .int .i64 op7, .int .i64 x7, .int .i64 y7, .slice a7 n7 cap7] 36)) base r p ev ev7 nb fb s k2 d l2 bf 2 0 0 (some ⟨w7.heap.size, 0, none⟩) 2 2 (.two 2 g b) := ⟨P9.1, rowIs_keep KA (Nat.zero_le _) F8, rowIs_keep KA (Nat.zero_le _) E9, V8, R.up, G8.trans P9.2⟩
            generalize w8.alloc (.cells #[.int .i64 op, .int .i64 x, .int .i64 y, .slice a n cap, .int .i64 op7, .int .i64 x7, .int .i64 y7, .slice a7 n7 cap7] 36) = w9 at R9 ⊢
            go_wp2_with fail
            refine ⟨⟨gf, k2, l2, ev7, 2, 0, 0, _, 2, 2, _, R9, ⟨by omega, HR.out.2, by omega⟩⟩, ?_⟩
            rw [HR.out.1.pb.lp.c2, R9.pb.lp.c2]
            simp only [intOf]
            omega
      · rw [if_neg (show ¬ byt s k' = sgn 2 from hb)] at hgl
        have dne : ((byt s k' : Int) == 38) = false := by simp; omega
        have HR : Hid (_ ∧ _) := And.intro R hgl
        clear R hgl HG H
        go_wp2_with (first | (go_at_call 110; refine NX.mono ?_; rintro e w3 ⟨rfl, P3, G3⟩; have B3 := rowIs_keep (HR.out.1.pb.fkeep G3 0) (Nat.zero_le _) HR.out.1.box; have F3 := rowIs_keep (HR.out.1.pb.fkeep G3 0) (Nat.zero_le _) HR.out.1.res; obtain ⟨t0, t1, t2, t3⟩ := form_cells B3; obtain ⟨z0, z1, z2, z3⟩ := form_cells F3; have y0 := World.rowIs.frozen F3 0; have y1 := World.rowIs.frozen F3 1; have y2 := World.rowIs.frozen F3 2; have y3 := World.rowIs.frozen F3 3))
        have N := fin_box P3 F3 ((HR.out.1.val.keep ((HR.out.1.pb.fkeep G3 0).toA _)).mono (fun k hk => hk.1)) (HR.out.1.grew.trans G3) (Kept.refl _ _)
        unfold put4 at N
        clear z0 z1 z2 z3 y0 y1 y2 y3 t0 t1 t2 t3
        generalize ((((w3).setCell ⟨w.heap.size, 0, none⟩ (.int .i64 op)).setCell ⟨w.heap.size, 1, none⟩ (.int .i64 x)).setCell ⟨w.heap.size, 2, none⟩ (.int .i64 y)).setCell ⟨w.heap.size, 3, none⟩ (.slice a n cap) = w8 at N ⊢
        obtain ⟨z0, z1, z2, z3, V8, P8, G8⟩ := N
        refine ⟨rfl, .agg #[.int .i64 op, .int .i64 x, .int .i64 y, .slice a n cap], by simp [results, Tryz.results152, go_sem, z0, z1, z2, z3], ?_⟩
        rw [HR.out.2]
        exact ⟨_, rfl, V8, ev', P8, G8⟩

end Go.Proofs.YtlehlgipbhfioaaGreat
