/- The document's parser: not at an equality; the recursion. -/
import Derived.Test.YtinphcnknionmaaP28
namespace Go.Proofs.Ytinphcnknionmaa.Q5
open Go.RowKit

def TRel (s : ByteArray) (R : Res Nat) (n : Int) (i e a : Nat) (l : List Tm) : Prop := match R with
  | .ok m k l2 => n = (m : Int) ∧ e = 0 ∧ a = 0 ∧ l = l2 ∧ bl s i = k
  | .bad c q l2 => c ≠ 0 ∧ e = c ∧ a = q ∧ l = l2
theorem term5_one (d : Nat) (w : World) (base r : Nat) (av : Value) (s : ByteArray) (i : Nat) (l : List Tm) (vs : List Value) (h : S0 d w base r av s i 0 0 l vs) :
    Calls Try.prog 189 #[.pointer (some ⟨r, 0, none⟩)] w fun x w' => ∃ n : Int, x = .returned (.int .i64 n) ∧ ∃ av' i' e' a' l' vs', S0 d w' base r av' s i' e' a' l' vs' ∧ GR r w av w' av' ∧ Hid (TRel s (lTerm s (bl s i) l) n i' e' a' l') := by
  refine (term5_in d w base r av s i l vs h).mono ?_
  intro x w' hx
  cases hp : lTerm s (bl s i) l with
  | ok n k l' =>
    rw [hp] at hx
    obtain ⟨rfl, av', i', vs', S, hk, G⟩ := hx
    exact ⟨n, rfl, av', i', 0, 0, l', vs', S, G, ⟨rfl, rfl, rfl, rfl, hk⟩⟩
  | bad c q l' =>
    rw [hp] at hx
    obtain ⟨hc, n, rfl, av', i', vs', S, G⟩ := hx
    exact ⟨n, rfl, av', i', c, q, l', vs', S, G, ⟨hc, rfl, rfl, rfl⟩⟩

/-- The negation of a Form is put into the box of the result. -/
theorem neg_end {d : Nat} {w W : World} {base r : Nat} {av av' : Value} {s : ByteArray} {i e a : Nat} {l : List Tm} {vs : List Value} (S : S0 d W base r av' s i e a l vs) {f : Nat → Value} (F : W.rowIs w.heap.size 94 4 f) {op x y : Int} {aa : Option Addr} {n cap : Nat} {g : Fo}
    (V : RVal (fun k => w.heap.size + 1 ≤ k) W (.agg #[.int .i64 op, .int .i64 x, .int .i64 y, .slice aa n cap]) g) (G : GR r w av W av') (hz : w.heap.size < W.heap.size) {W' : World}
    (hW : W' = ((put4 W w.heap.size (.int .i64 1) (.int .i64 0) (.int .i64 0) (.slice (some ⟨W.heap.size + 1, 0, none⟩) 1 1)).alloc (.cells #[.int .i64 op, .int .i64 x, .int .i64 y, .slice aa n cap] 94)).alloc (.cells #[.int .i64 op, .int .i64 x, .int .i64 y, .slice aa n cap] 94)) :
    W'.cell? ⟨w.heap.size, 0, none⟩ = some (.int .i64 1) ∧ W'.cell? ⟨w.heap.size, 1, none⟩ = some (.int .i64 0) ∧ W'.cell? ⟨w.heap.size, 2, none⟩ = some (.int .i64 0) ∧ W'.cell? ⟨w.heap.size, 3, none⟩ = some (.slice (some ⟨W.heap.size + 1, 0, none⟩) 1 1) ∧
      RVal (fun k => w.heap.size ≤ k) W' (.agg #[.int .i64 1, .int .i64 0, .int .i64 0, .slice (some ⟨W.heap.size + 1, 0, none⟩) 1 1]) (.neg g) ∧ S0 d W' base r av' s i e a l vs ∧ GR r w av W' av' := by
  subst hW
  have S9 := S.put F (put_kept W w.heap.size (.int .i64 1) (.int .i64 0) (.int .i64 0) (.slice (some ⟨W.heap.size + 1, 0, none⟩) 1 1))
  have F9 := put_formR F (.int .i64 1) (.int .i64 0) (.int .i64 0) (.slice (some ⟨W.heap.size + 1, 0, none⟩) 1 1)
  have G9 := GR.put G (Nat.le_refl _) (put_kept W w.heap.size (.int .i64 1) (.int .i64 0) (.int .i64 0) (.slice (some ⟨W.heap.size + 1, 0, none⟩) 1 1))
  have V9 := V.keep (put_keepR (w := W) (b := w.heap.size) (by omega) (.int .i64 1) (.int .i64 0) (.int .i64 0) (.slice (some ⟨W.heap.size + 1, 0, none⟩) 1 1))
  have hz9 := put_size W w.heap.size (.int .i64 1) (.int .i64 0) (.int .i64 0) (.slice (some ⟨W.heap.size + 1, 0, none⟩) 1 1)
  generalize put4 W w.heap.size (.int .i64 1) (.int .i64 0) (.int .i64 0) (.slice (some ⟨W.heap.size + 1, 0, none⟩) 1 1) = w9 at *
  have K10 : Kept0 w9 (w9.alloc (.cells #[.int .i64 op, .int .i64 x, .int .i64 y, .slice aa n cap] 94)) := Kept.alloc (Kept.refl _ w9) _
  have V10 := V9.keep (RKeep.kept0 K10 _)
  have hz10 : (w9.alloc (.cells #[.int .i64 op, .int .i64 x, .int .i64 y, .slice aa n cap] 94)).heap.size = W.heap.size + 1 := by simp; omega
  have V11 := V10.one (by rw [hz10]; omega)
  rw [hz10] at V11
  have K11 := Kept.alloc K10 (.cells #[.int .i64 op, .int .i64 x, .int .i64 y, .slice aa n cap] 94)
  obtain ⟨z0, z1, z2, z3⟩ := form_cellsR (rowIs_keepR (RKeep.kept0 K11 (fun _ => True)) trivial F9)
  exact ⟨z0, z1, z2, z3, V11.mono (fun k hk => by omega), S9.kept0 K11, G9.kept0 K11⟩

set_option maxRecDepth 100000 in
set_option maxHeartbeats 2000000 in
theorem not_equ (w : World) (base r : Nat) (av : Value) (s : ByteArray) (i d : Nat) (l : List Tm) (vs : List Value) (h : S0 d w base r av s i 0 0 l vs) (hb1 : ¬ byt s (bl s i) = 33) (hb2 : ¬ byt s (bl s i) = 40) :
    Calls Try.prog 178 #[.pointer (some ⟨r, 0, none⟩)] w (PoPost d w base r av s (gEqu s (bl s i) l)) := by
  generalize hR0 : gEqu s (bl s i) l = R0
  have KA : Kept0 w (w.alloc (.cells #[.int .i64 0, .int .i64 0, .int .i64 0, .slice none 0 0] 94)) := Kept.alloc (Kept.refl _ w) _
  have S1 := h.kept0 KA
  have F1 := made_formR w (.int .i64 0) (.int .i64 0) (.int .i64 0) (.slice none 0 0)
  have G1 := (GR.refl r w av).kept0 KA
  have c3 := h.rd.c3
  have hr := h.rd.row.lt
  have hsm := h.rd.small
  have hbb := bl_bl s i
  have ISA := is_in _ r s i av 0 0 S1.rd 33
  rw [show isB s i 0 33 = false by simp [isB, stands_ne hb1]] at ISA
  have ISB := fun W (R : Rr (d : Int) W r s (bl s i) av 0 0) => is_in W r s (bl s i) av 0 0 R 40
  rw [show isB s (bl s i) 0 40 = false by simp [isB, hbb, stands_ne hb2], hbb] at ISB
  have TM := fun W (S : S0 d W base r av s (bl s i) 0 0 l vs) => term5_one d W base r av s (bl s i) l vs S
  rw [hbb] at TM
  unfold gEqu at hR0
  have HS : Hid (_ ∧ _ ∧ _) := And.intro S1 (And.intro F1 G1)
  clear S1 F1 G1 h
  go_enter Try.func178, Try.ntmps178
  go_wp2_with (first | (go_at_call 189; refine T4.mono ?_; rintro e w5 ⟨n5, rfl, av5, i5, e5, a5, l5, vs5, S5, G5, T5⟩; refine Aside.out ?_) | (go_at_call 147; refine ISC.mono ?_; rintro e w3 ⟨rfl, R3, K3⟩; have S3 := (HS.out.1.read K2 R2).read K3 R3; have T4 := TM w3 S3) | (go_at_call 147; refine ISA.mono ?_; rintro e w2 ⟨rfl, R2, K2⟩; have ISC := ISB w2 R2; clear ISA ISB))
  delta Aside
  have KR5 := (HS.out.1.rkeep (((GR.refl r _ av).kept1 K2).kept1 K3) (fun _ => True)).trans (S3.rkeep G5 (fun _ => True))
  have F5 := rowIs_keepR KR5 trivial HS.out.2.1
  have G5' : GR r w av w5 av5 := ((HS.out.2.2.kept1 K2).kept1 K3).trans G5
  have hz5 : w.heap.size < w5.heap.size := World.rowIs.lt F5
  have H5 : Hid (_ ∧ _ ∧ _) := And.intro S5 (And.intro F5 G5')
  have hle5 := bl_le S5.rd.le
  have hbb5 := bl_bl s i5
  have HAS := rhas1_in w5 r s i5 av5 e5 a5 S5.rd 33
  clear KR5 F5 G5' S5 T4 S3 R3 K3 ISC R2 K2 TM HS G5
  have T := T5.out
  clear T5
  generalize lTerm s (bl s i) l = RT at *
  cases hB : isB s i5 e5 33 with
  | true =>
    rw [hB] at HAS
    rw [show hasI s i5 e5 33 = bl s i5 + 1 by simp [hasI, hB]] at HAS
    obtain ⟨rfl, hst⟩ : e5 = 0 ∧ stands s (bl s i5) 33 = true := by simpa [isB] using hB
    have hbyt : byt s (bl s i5) = 33 := (of_decide_eq_true hst).2
    obtain ⟨m5, rfl, rfl, rfl⟩ : ∃ m5 : Nat, n5 = (m5 : Int) ∧ a5 = 0 ∧ RT = .ok m5 (bl s i5) l5 := by
      cases RT with
      | ok m k l1 =>
        obtain ⟨rfl, _, rfl, rfl, rfl⟩ := T
        exact ⟨m, rfl, rfl, rfl⟩
      | bad c q l1 => exact absurd T.2.1.symm T.1
    simp only [Res.bind, if_pos hbyt] at hR0
    have SEC := fun w3 (R3 : Rr (d : Int) w3 r s (bl s i5 + 1) av5 0 0) => second_in w3 r s (bl s i5 + 1) av5 0 R3 61
    cases hs : stands s (bl s i5 + 1) 61 with
    | false =>
      rw [hs] at hR0
      simp only [hs] at SEC
      have HT : Hid (Rel s R0 (.eq 0 0) (bl s i5 + 1) 2 (bl s i5 + 1) l5) := by
        subst hR0
        exact ⟨by decide, rfl, rfl, rfl⟩
      clear hR0 T
      apply_assumption
      go_wp2_with (first | (go_at_call 130; refine SE.mono ?_; rintro e w7 ⟨rfl, R7, K7⟩; simp only [Bool.false_eq_true, if_false] at R7; have KR := H5.out.1.rkeep (((GR.refl r _ av5).kept1 K6).kept1 K7) (fun _ => True); have F7 := rowIs_keepR KR trivial H5.out.2.1; have c37 := R7.c3; obtain ⟨z0, z1, z2, z3⟩ := form_cellsR F7; have y0 := World.rowIs.frozen F7 0; have y1 := World.rowIs.frozen F7 1; have y2 := World.rowIs.frozen F7 2; have y3 := World.rowIs.frozen F7 3) | (go_at_call 114; refine HAS.mono ?_; rintro e w6 ⟨rfl, R6, K6⟩; have SE := SEC w6 R6))
      have N := finR ((H5.out.1.read K6 R6).read K7 R7) F7 (RVal.eq _ _ 0 0) ((H5.out.2.2.kept1 K6).kept1 K7)
      unfold put4 at N
      clear z0 z1 z2 z3 y0 y1 y2 y3
      generalize (((w7.setCell ⟨w.heap.size, 0, none⟩ (.int .i64 0)).setCell ⟨w.heap.size, 1, none⟩ (.int .i64 0)).setCell ⟨w.heap.size, 2, none⟩ (.int .i64 0)).setCell ⟨w.heap.size, 3, none⟩ (.slice none 0 0) = w10 at N ⊢
      obtain ⟨z0, z1, z2, z3, V10, S10, G10⟩ := N
      refine ⟨rfl, .agg #[.int .i64 0, .int .i64 0, .int .i64 0, .slice none 0 0], by simp [results, Try.results178, go_sem, z0, z1, z2, z3], ?_⟩
      exact ⟨_, _, rfl, V10, av5, _, _, _, l5, vs5, S10, G10, HT⟩
    | true =>
      rw [hs] at hR0
      simp only [hs] at SEC
      simp only [if_true] at hR0
      have hk3 := (of_decide_eq_true hs).1
      have TM := fun w7 (S7 : S0 d w7 base r av5 s (bl s i5 + 1 + 1) 0 0 l5 vs5) => term5_one d w7 base r av5 s (bl s i5 + 1 + 1) l5 vs5 S7
      have HT : Hid (∀ n8 i8 e8 a8 l8, TRel s (lTerm s (bl s (bl s i5 + 1 + 1)) l5) n8 i8 e8 a8 l8 → Rel s R0 (.neg (.eq m5 n8)) i8 e8 a8 l8) := by
        subst hR0
        intro n8 i8 e8 a8 l8 T
        cases hp : lTerm s (bl s (bl s i5 + 1 + 1)) l5 with
        | ok b k2 l2 =>
          rw [hp] at T
          obtain ⟨rfl, rfl, rfl, rfl, rfl⟩ := T
          exact ⟨rfl, rfl, rfl, rfl, rfl⟩
        | bad c q l2 =>
          rw [hp] at T
          exact T
      clear hR0 T
      apply_assumption
      go_wp2_with (first | (go_at_call 189; refine T7.mono ?_; rintro e w8 ⟨n8, rfl, av8, i8, e8, a8, l8, vs8, S8, G8, T8⟩; have F8 := rowIs_keepR (KR.trans (S7.rkeep G8 (fun _ => True))) trivial H5.out.2.1; have hlt8 := World.rowIs.lt F8; obtain ⟨z0, z1, z2, z3⟩ := form_cellsR F8; have y0 := World.rowIs.frozen F8 0; have y1 := World.rowIs.frozen F8 1; have y2 := World.rowIs.frozen F8 2; have y3 := World.rowIs.frozen F8 3) | (go_at_call 130; refine SE.mono ?_; rintro e w7 ⟨rfl, R7, K7⟩; simp only [if_true] at R7; have KR := H5.out.1.rkeep (((GR.refl r _ av5).kept1 K6).kept1 K7) (fun _ => True); have c37 := R7.c3; have S7 := (H5.out.1.read K6 R6).read K7 R7; have T7 := TM w7 S7) | (go_at_call 114; refine HAS.mono ?_; rintro e w6 ⟨rfl, R6, K6⟩; have SE := SEC w6 R6))
      have N := neg_end S8 F8 (RVal.eq _ _ (m5 : Int) n8) (((H5.out.2.2.kept1 K6).kept1 K7).trans G8) hlt8 rfl
      unfold put4 at N
      clear z0 z1 z2 z3 y0 y1 y2 y3
      generalize (((((w8.setCell ⟨w.heap.size, 0, none⟩ (.int .i64 1)).setCell ⟨w.heap.size, 1, none⟩ (.int .i64 0)).setCell ⟨w.heap.size, 2, none⟩ (.int .i64 0)).setCell ⟨w.heap.size, 3, none⟩ (.slice (some ⟨w8.heap.size + 1, 0, none⟩) 1 1)).alloc (.cells #[.int .i64 0, .int .i64 (m5 : Int), .int .i64 n8, .slice none 0 0] 94)).alloc (.cells #[.int .i64 0, .int .i64 (m5 : Int), .int .i64 n8, .slice none 0 0] 94) = w10 at N ⊢
      obtain ⟨z0, z1, z2, z3, V10, S10, G10⟩ := N
      refine ⟨rfl, .agg #[.int .i64 1, .int .i64 0, .int .i64 0, .slice (some ⟨w8.heap.size + 1, 0, none⟩) 1 1], by simp [results, Try.results178, go_sem, z0, z1, z2, z3], ?_⟩
      exact ⟨_, _, rfl, V10, av8, i8, e8, a8, l8, vs8, S10, G10, HT.out _ _ _ _ _ T8.out⟩
  | false =>
    rw [hB] at HAS
    rw [show hasI s i5 e5 33 = bl s i5 by simp [hasI, hB]] at HAS
    have HAT := fun w6 (R6 : Rr (d : Int) w6 r s (bl s i5) av5 e5 a5) => rhas1_in w6 r s (bl s i5) av5 e5 a5 R6 61
    cases hC : isB s (bl s i5) e5 61 with
    | true =>
      rw [hC] at HAT
      rw [show hasI s (bl s i5) e5 61 = bl s i5 + 1 by simp [hasI, hC, hbb5]] at HAT
      obtain ⟨rfl, hst⟩ : e5 = 0 ∧ stands s (bl s i5) 61 = true := by simpa [isB, hbb5] using hC
      have hbyt : ¬ byt s (bl s i5) = 33 := by have := (of_decide_eq_true hst).2; omega
      obtain ⟨m5, rfl, rfl, rfl⟩ : ∃ m5 : Nat, n5 = (m5 : Int) ∧ a5 = 0 ∧ RT = .ok m5 (bl s i5) l5 := by
        cases RT with
        | ok m k l1 =>
          obtain ⟨rfl, _, rfl, rfl, rfl⟩ := T
          exact ⟨m, rfl, rfl, rfl⟩
        | bad c q l1 => exact absurd T.2.1.symm T.1
      simp only [Res.bind, if_neg hbyt, if_pos hst] at hR0
      have TM := fun w7 (S7 : S0 d w7 base r av5 s (bl s i5 + 1) 0 0 l5 vs5) => term5_one d w7 base r av5 s (bl s i5 + 1) l5 vs5 S7
      have HT : Hid (∀ n8 i8 e8 a8 l8, TRel s (lTerm s (bl s (bl s i5 + 1)) l5) n8 i8 e8 a8 l8 → Rel s R0 (.eq m5 n8) i8 e8 a8 l8) := by
        subst hR0
        intro n8 i8 e8 a8 l8 T
        cases hp : lTerm s (bl s (bl s i5 + 1)) l5 with
        | ok b k2 l2 =>
          rw [hp] at T
          obtain ⟨rfl, rfl, rfl, rfl, rfl⟩ := T
          exact ⟨rfl, rfl, rfl, rfl, rfl⟩
        | bad c q l2 =>
          rw [hp] at T
          exact T
      clear hR0 T
      apply_assumption
      go_wp2_with (first | (go_at_call 189; refine T7.mono ?_; rintro e w8 ⟨n8, rfl, av8, i8, e8, a8, l8, vs8, S8, G8, T8⟩; have F8 := rowIs_keepR (KR.trans (S7.rkeep G8 (fun _ => True))) trivial H5.out.2.1; have hlt8 := World.rowIs.lt F8; obtain ⟨z0, z1, z2, z3⟩ := form_cellsR F8; have y0 := World.rowIs.frozen F8 0; have y1 := World.rowIs.frozen F8 1; have y2 := World.rowIs.frozen F8 2; have y3 := World.rowIs.frozen F8 3) | (go_at_call 114; refine HAU.mono ?_; rintro e w7 ⟨rfl, R7, K7⟩; have KR := H5.out.1.rkeep (((GR.refl r _ av5).kept1 K6).kept1 K7) (fun _ => True); have c37 := R7.c3; have S7 := (H5.out.1.read K6 R6).read K7 R7; have T7 := TM w7 S7) | (go_at_call 114; refine HAS.mono ?_; rintro e w6 ⟨rfl, R6, K6⟩; have HAU := HAT w6 R6; clear HAS HAT))
      have N := finR S8 F8 (RVal.eq _ _ (m5 : Int) n8) (((H5.out.2.2.kept1 K6).kept1 K7).trans G8)
      have F9 := put_formR F8 (.int .i64 0) (.int .i64 (m5 : Int)) (.int .i64 n8) (.slice none 0 0)
      unfold put4 at N F9
      clear z0 z1 z2 z3 y0 y1 y2 y3
      generalize (((w8.setCell ⟨w.heap.size, 0, none⟩ (.int .i64 0)).setCell ⟨w.heap.size, 1, none⟩ (.int .i64 (m5 : Int))).setCell ⟨w.heap.size, 2, none⟩ (.int .i64 n8)).setCell ⟨w.heap.size, 3, none⟩ (.slice none 0 0) = w9 at N F9 ⊢
      obtain ⟨_, _, _, _, V9, S9, G9⟩ := N
      have K10 : Kept0 w9 (w9.alloc (.cells #[.int .i64 0, .int .i64 (m5 : Int), .int .i64 n8, .slice none 0 0] 94)) := Kept.alloc (Kept.refl _ w9) _
      obtain ⟨z0, z1, z2, z3⟩ := form_cellsR (rowIs_keepR (RKeep.kept0 K10 (fun _ => True)) trivial F9)
      refine ⟨rfl, .agg #[.int .i64 0, .int .i64 (m5 : Int), .int .i64 n8, .slice none 0 0], by simp [results, Try.results178, go_sem, z0, z1, z2, z3], ?_⟩
      exact ⟨_, _, rfl, V9.keep (RKeep.kept0 K10 _), av8, i8, e8, a8, l8, vs8, S9.kept0 K10, G9.kept0 K10, HT.out _ _ _ _ _ T8.out⟩
    | false =>
      rw [hC] at HAT
      rw [show hasI s (bl s i5) e5 61 = bl s i5 by simp [hasI, hC, hbb5]] at HAT
      have HT : Hid (Rel s R0 (.eq 0 0) (bl s i5) (failE e5 2) (failA e5 a5 (bl s i5)) l5) := by
        subst hR0
        cases RT with
        | ok b k2 l2 =>
          obtain ⟨rfl, rfl, rfl, rfl, rfl⟩ := T
          have hn : ¬ byt s (bl s i5) = 33 := fun x => by
            have := stands_of x (by decide)
            simp [isB] at hB
            rw [hB] at this
            cases this
          have hst : ¬ stands s (bl s i5) 61 = true := by simpa [isB, hbb5] using hC
          simp only [Res.bind, if_neg hn, if_neg hst]
          exact ⟨by decide, rfl, rfl, rfl⟩
        | bad c q l2 =>
          obtain ⟨hc, rfl, rfl, rfl⟩ := T
          exact ⟨hc, if_neg hc, if_neg hc, rfl⟩
      clear hR0 T
      have hfe : failE e5 2 ≠ 0 := by unfold failE; split <;> omega
      have BLK := fun w7 (R7 : Rr (d : Int) w7 r s (bl s i5) av5 e5 a5) => rblanks_in w7 r s (bl s i5) av5 e5 a5 R7
      rw [hbb5] at BLK
      apply_assumption
      go_wp2_with (first | (go_at_call 69; refine BL.mono ?_; rintro e w8 ⟨rfl, R8, K8⟩; have c18 := R8.c1; have FAIL := fun m => fail_in (w8.drewN m) r s (bl s i5) av5 e5 a5 (R8.drewN m) 2 (bl s i5)) | (go_at_call 114; refine HAU.mono ?_; rintro e w7 ⟨rfl, R7, K7⟩; have BL := BLK w7 R7) | (go_at_call 114; refine HAS.mono ?_; rintro e w6 ⟨rfl, R6, K6⟩; have HAU := HAT w6 R6; clear HAS HAT))
      clear HAU BL BLK
      go_region_with (go_at_call 70; refine (FAIL 1).mono ?_; rintro e w9 ⟨rfl, R9, K9⟩; have KX := Kept.trans (Kept.drewN (Kept.refl _ w8) 1) K9; have KR := H5.out.1.rkeep (((((GR.refl r _ av5).kept1 K6).kept1 K7).kept1 K8).kept1 KX) (fun _ => True); have F8 := rowIs_keepR KR trivial H5.out.2.1; have c39 := R9.c3; obtain ⟨z0, z1, z2, z3⟩ := form_cellsR F8; have y0 := World.rowIs.frozen F8 0; have y1 := World.rowIs.frozen F8 1; have y2 := World.rowIs.frozen F8 2; have y3 := World.rowIs.frozen F8 3)
      generalize hfe2 : failE e5 2 = e9 at *
      have de : ((e9 : Int) != 0) = true := by simp; omega
      go_wp2_with fail
      have N := finR ((((H5.out.1.read K6 R6).read K7 R7).read K8 R8).read KX R9) F8 (RVal.eq _ _ 0 0) ((((H5.out.2.2.kept1 K6).kept1 K7).kept1 K8).kept1 KX)
      unfold put4 at N
      clear z0 z1 z2 z3 y0 y1 y2 y3
      generalize (((w9.setCell ⟨w.heap.size, 0, none⟩ (.int .i64 0)).setCell ⟨w.heap.size, 1, none⟩ (.int .i64 0)).setCell ⟨w.heap.size, 2, none⟩ (.int .i64 0)).setCell ⟨w.heap.size, 3, none⟩ (.slice none 0 0) = w10 at N ⊢
      obtain ⟨z0, z1, z2, z3, V10, S10, G10⟩ := N
      refine ⟨rfl, .agg #[.int .i64 0, .int .i64 0, .int .i64 0, .slice none 0 0], by simp [results, Try.results178, go_sem, z0, z1, z2, z3], ?_⟩
      exact ⟨_, _, rfl, V10, av5, _, _, _, l5, vs5, S10, G10, HT⟩

theorem not_at (f : Nat) (H3 : At5 178 3 f) (H0 : At5 101 0 f) (E0 : Er5 101) : At5 178 3 (f + 1) := by
  intro w base r av s i d l vs h hf hd
  rw [gp, if_neg (by omega), if_pos rfl]
  by_cases h33 : byt s (bl s i) = 33
  · rw [if_pos h33]
    have := not_bang f H3 w base r av s i d l vs h hf hd h33
    unfold negR inR at this
    by_cases h20 : 20 ≤ d
    · rw [if_pos h20] at this ⊢
      exact this
    · rw [if_neg h20] at this ⊢
      exact this
  · rw [if_neg h33]
    by_cases h40 : byt s (bl s i) = 40
    · rw [if_pos h40]
      have := not_paren f H0 E0 w base r av s i d l vs h hf hd h40
      unfold parR inR at this
      by_cases h20 : 20 ≤ d
      · rw [if_pos h20] at this ⊢
        exact this
      · rw [if_neg h20] at this ⊢
        exact this
    · rw [if_neg h40]
      exact not_equ w base r av s i d l vs h h33 h40

theorem er_form : Er5 101 := form_er (or_er (and_er not_er))

/-- The recursion's end. -/
theorem at5_all : ∀ f : Nat, At5 101 0 f ∧ At5 129 1 f ∧ At5 158 2 f ∧ At5 178 3 f
  | 0 => ⟨fun _ _ _ _ _ _ _ _ _ _ hf => absurd hf (by omega), fun _ _ _ _ _ _ _ _ _ _ hf => absurd hf (by omega), fun _ _ _ _ _ _ _ _ _ _ hf => absurd hf (by omega), fun _ _ _ _ _ _ _ _ _ _ hf => absurd hf (by omega)⟩
  | f + 1 => ⟨form_at f (at5_all f).2.1 (at5_all f).1, or_at f (fun g _ => (at5_all g).2.2.1), and_at f (fun g _ => (at5_all g).2.2.2), not_at f (at5_all f).2.2.2 (at5_all f).1 er_form⟩

end Go.Proofs.Ytinphcnknionmaa.Q5
