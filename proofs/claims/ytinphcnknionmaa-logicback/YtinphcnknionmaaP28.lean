/- The document's parser: form. The document's parser: not, within brackets and behind a sign. -/
import Derived.Test.YtinphcnknionmaaPaC
namespace Go.Proofs.Ytinphcnknionmaa.Q5
open Go.RowKit

set_option maxRecDepth 100000 in
set_option maxHeartbeats 2000000 in
theorem form_walk (f : Nat) (H0 : At5 101 0 f) (w : World) (base r : Nat) (av : Value) (s : ByteArray) (i0 e0 a0 d : Nat) (l0 : List Tm) (vs0 : List Value) (h0 : S0 d w base r av s i0 e0 a0 l0 vs0) (R1 : Res Fo)
    (C1 : ∀ o, Calls Try.prog 129 #[.pointer (some ⟨r, 0, none⟩)] (w.alloc o) (PoPost d (w.alloc o) base r av s R1)) (hF : ∀ g k l1, R1 = .ok g k l1 → 6 * (s.size - k) + 5 ≤ f ∧ d ≤ 20) :
    Calls Try.prog 101 #[.pointer (some ⟨r, 0, none⟩)] w (PoPost d w base r av s (R1.bind fun a k l1 =>
        if byt s k = 45 then
          if stands s (k + 1) 62 then (gp s f 0 d (bl s (k + 1 + 1)) l1).bind fun b k2 l2 => .ok (.two 4 a b) k2 l2
          else .bad 2 (k + 1) l1
        else .ok a k l1)) := by
  generalize hR0 : (R1.bind fun a k l1 =>
        if byt s k = 45 then
          if stands s (k + 1) 62 then (gp s f 0 d (bl s (k + 1 + 1)) l1).bind fun b k2 l2 => .ok (.two 4 a b) k2 l2
          else .bad 2 (k + 1) l1
        else .ok a k l1) = R0
  go_enter Try.func101, Try.ntmps101
  go_wp2_with (first | (go_at_call 129; refine (C1 _).mono ?_; rintro x5 w5 ⟨v5, g5, rfl, V5, av5, i5, e5, a5, l5, vs5, S5, G5, T5⟩; obtain ⟨op5, x5, y5, aa5, n5, cap5, rfl⟩ := V5.form; refine Aside.out ?_))
  have hsz : w.heap.size + 1 ≤ w5.heap.size := by have := G5.kept.size; simp at this; omega
  have KA : Kept0 w (w.alloc (.cells #[.int .i64 0, .int .i64 0, .int .i64 0, .slice none 0 0] 94)) := Kept.alloc (Kept.refl _ w) _
  have GA := (GR.refl r w av).kept0 KA
  have K6 : Kept0 w5 (w5.alloc (.cells #[.int .i64 op5, .int .i64 x5, .int .i64 y5, .slice aa5 n5 cap5] 94)) := Kept.alloc (Kept.refl _ w5) _
  have F5 := rowIs_keepR (((h0.kept0 KA).rkeep G5 (fun _ => True)).trans (RKeep.kept0 K6 _)) trivial (made_formR w (.int .i64 0) (.int .i64 0) (.int .i64 0) (.slice none 0 0))
  have V6 := ((RVal.lt V5).mono (A' := fun k => w.heap.size + 1 ≤ k ∧ k ≠ w5.heap.size) (fun k hk => ⟨by have := hk.1; simp at this; exact this, by have := hk.2; omega⟩)).keep (RKeep.kept0 K6 _)
  have Q0 : Row5 w (w5.alloc (.cells #[.int .i64 op5, .int .i64 x5, .int .i64 y5, .slice aa5 n5 cap5] 94)) d base r av av5 s i5 e5 a5 l5 vs5 w5.heap.size op5 x5 y5 aa5 n5 cap5 g5 := ⟨S5.kept0 K6, made_formR w5 _ _ _ _, F5, V6, by omega, (GA.trans G5).kept0 K6⟩
  have hbf : w.heap.size < w5.heap.size := by omega
  have HR : Hid (Row5 w (w5.alloc (.cells #[.int .i64 op5, .int .i64 x5, .int .i64 y5, .slice aa5 n5 cap5] 94)) d base r av av5 s i5 e5 a5 l5 vs5 w5.heap.size op5 x5 y5 aa5 n5 cap5 g5) := Q0
  have HAS := rhas1_in _ r s i5 av5 e5 a5 Q0.st.rd 45
  have hle5 := bl_le S5.rd.le
  clear V6 F5 K6 GA KA G5 V5 C1 h0
  delta Aside
  cases hB : isB s i5 e5 45 with
  | false =>
    rw [hB] at HAS
    rw [show hasI s i5 e5 45 = bl s i5 by simp [hasI, hB]] at HAS
    have HT : Hid (Rel s R0 g5 (bl s i5) e5 a5 l5) := by
      subst hR0
      have T := T5.out
      unfold Hid
      cases R1 with
      | ok g k l1 =>
        obtain ⟨rfl, rfl, rfl, rfl, rfl⟩ := T
        have hb : ¬ byt s (bl s i5) = 45 := fun x => by
          have := stands_of x (by decide)
          simp [isB] at hB
          rw [hB] at this
          cases this
        simp only [Res.bind, if_neg hb]
        exact ⟨rfl, rfl, rfl, rfl, bl_bl s i5⟩
      | bad c q l1 => exact T
    clear hR0 hF T5 Q0 H0 S5 R1
    apply_assumption
    go_wp2_with (first | (go_at_call 114; refine HAS.mono ?_; rintro e w3 ⟨rfl, R3, K3⟩; have KR := HR.out.st.rkeep ((GR.refl r _ av5).kept1 K3) (fun _ => True); have B3 := rowIs_keepR KR trivial HR.out.box; have F3 := rowIs_keepR KR trivial HR.out.res; obtain ⟨t0, t1, t2, t3⟩ := form_cellsR B3; obtain ⟨z0, z1, z2, z3⟩ := form_cellsR F3; have y0 := World.rowIs.frozen F3 0; have y1 := World.rowIs.frozen F3 1; have y2 := World.rowIs.frozen F3 2; have y3 := World.rowIs.frozen F3 3))
    have N := finR (HR.out.st.read K3 R3) F3 ((HR.out.val.keep (KR.mono (fun _ _ => trivial))).mono (fun k hk => hk.1)) (HR.out.grew.kept1 K3)
    unfold put4 at N
    clear z0 z1 z2 z3 y0 y1 y2 y3 t0 t1 t2 t3
    generalize ((((w3).setCell ⟨w.heap.size, 0, none⟩ (.int .i64 op5)).setCell ⟨w.heap.size, 1, none⟩ (.int .i64 x5)).setCell ⟨w.heap.size, 2, none⟩ (.int .i64 y5)).setCell ⟨w.heap.size, 3, none⟩ (.slice aa5 n5 cap5) = w8 at N ⊢
    obtain ⟨z0, z1, z2, z3, V8, P8, G8⟩ := N
    refine ⟨rfl, .agg #[.int .i64 op5, .int .i64 x5, .int .i64 y5, .slice aa5 n5 cap5], by simp [results, Try.results101, go_sem, z0, z1, z2, z3], ?_⟩
    exact ⟨_, g5, rfl, V8, av5, _, e5, a5, l5, vs5, P8, G8, HT⟩
  | true =>
    rw [hB] at HAS
    rw [show hasI s i5 e5 45 = bl s i5 + 1 by simp [hasI, hB]] at HAS
    have hlt' := isB_lt hB
    have hst : e5 = 0 ∧ stands s (bl s i5) 45 = true := by simpa [isB] using hB
    obtain ⟨rfl, hst⟩ := hst
    have hbyt : byt s (bl s i5) = 45 := (of_decide_eq_true hst).2
    obtain ⟨rfl, hR1⟩ : a5 = 0 ∧ R1 = .ok g5 (bl s i5) l5 := by
      have T := T5.out
      cases R1 with
      | ok g k l1 =>
        obtain ⟨rfl, _, rfl, rfl, rfl⟩ := T
        exact ⟨rfl, rfl⟩
      | bad c q l1 => exact absurd T.2.1.symm T.1
    obtain ⟨hf1, hdd⟩ := hF _ _ _ hR1
    rw [hR1] at hR0
    simp only [Res.bind, if_pos hbyt] at hR0
    have SEC := fun w3 (R3 : Rr (d : Int) w3 r s (bl s i5 + 1) av5 0 0) => second_in w3 r s (bl s i5 + 1) av5 0 R3 62
    cases hs : stands s (bl s i5 + 1) 62 with
    | false =>
      rw [hs] at hR0
      simp only [hs] at SEC
      have HT : Hid (Rel s R0 g5 (bl s i5 + 1) 2 (bl s i5 + 1) l5) := by
        subst hR0
        exact ⟨by decide, rfl, rfl, rfl⟩
      clear hR0 hF T5 Q0 H0 S5 hR1
      apply_assumption
      go_wp2_with (first | (go_at_call 130; refine SE.mono ?_; rintro e w4 ⟨rfl, R4, K4⟩; simp only [Bool.false_eq_true, if_false] at R4; have KR := HR.out.st.rkeep (((GR.refl r _ av5).kept1 K3).kept1 K4) (fun _ => True); have B3 := rowIs_keepR KR trivial HR.out.box; have F3 := rowIs_keepR KR trivial HR.out.res; obtain ⟨t0, t1, t2, t3⟩ := form_cellsR B3; obtain ⟨z0, z1, z2, z3⟩ := form_cellsR F3; have y0 := World.rowIs.frozen F3 0; have y1 := World.rowIs.frozen F3 1; have y2 := World.rowIs.frozen F3 2; have y3 := World.rowIs.frozen F3 3) | (go_at_call 114; refine HAS.mono ?_; rintro e w3 ⟨rfl, R3, K3⟩; have SE := SEC w3 R3))
      have N := finR ((HR.out.st.read K3 R3).read K4 R4) F3 ((HR.out.val.keep (KR.mono (fun _ _ => trivial))).mono (fun k hk => hk.1)) ((HR.out.grew.kept1 K3).kept1 K4)
      unfold put4 at N
      clear z0 z1 z2 z3 y0 y1 y2 y3 t0 t1 t2 t3
      generalize ((((w4).setCell ⟨w.heap.size, 0, none⟩ (.int .i64 op5)).setCell ⟨w.heap.size, 1, none⟩ (.int .i64 x5)).setCell ⟨w.heap.size, 2, none⟩ (.int .i64 y5)).setCell ⟨w.heap.size, 3, none⟩ (.slice aa5 n5 cap5) = w8 at N ⊢
      obtain ⟨z0, z1, z2, z3, V8, P8, G8⟩ := N
      refine ⟨rfl, .agg #[.int .i64 op5, .int .i64 x5, .int .i64 y5, .slice aa5 n5 cap5], by simp [results, Try.results101, go_sem, z0, z1, z2, z3], ?_⟩
      exact ⟨_, g5, rfl, V8, av5, _, 2, _, l5, vs5, P8, G8, HT⟩
    | true =>
      rw [hs] at hR0
      simp only [hs] at SEC
      simp only [if_true] at hR0
      have hk3 := (of_decide_eq_true hs).1
      have hbl := bl_le (s := s) (i := bl s i5 + 1 + 1) (by omega)
      have hbg := bl_ge s (bl s i5 + 1 + 1)
      have PT := fun w4 (S4 : S0 d w4 base r av5 s (bl s i5 + 1 + 1) 0 0 l5 vs5) => H0 w4 base r av5 s (bl s i5 + 1 + 1) d l5 vs5 S4 (by omega) hdd
      have HT : Hid (∀ g7 i7 e7 a7 l7, Rel s (gp s f 0 d (bl s (bl s i5 + 1 + 1)) l5) g7 i7 e7 a7 l7 → Rel s R0 (.two 4 g5 g7) i7 e7 a7 l7) := by
        subst hR0
        intro g7 i7 e7 a7 l7 T
        cases hp : gp s f 0 d (bl s (bl s i5 + 1 + 1)) l5 with
        | ok b k2 l2 =>
          rw [hp] at T
          obtain ⟨rfl, rfl, rfl, rfl, rfl⟩ := T
          exact ⟨rfl, rfl, rfl, rfl, rfl⟩
        | bad c q l2 =>
          rw [hp] at T
          exact T
      clear hR0 hF T5 Q0 H0 S5 hR1
      generalize hbfe : w5.heap.size = bf at *
      generalize hw6 : w5.alloc (.cells #[.int .i64 op5, .int .i64 x5, .int .i64 y5, .slice aa5 n5 cap5] 94) = w6 at *
      apply_assumption
      go_wp2_with (first | (go_at_call 131; refine TW.mono ?_; rintro e w9 ⟨v9, rfl, V9, K9⟩; obtain ⟨op9, x9, y9, aa9, n9, cap9, rfl⟩ := V9.form; have F9 := rowIs_keepR ((RKeep.kept0 K78 (fun _ => True)).trans (RKeep.kept0 K9 (fun _ => True))) trivial F7; obtain ⟨q0, q1, q2, q3⟩ := form_cellsR F9; have y0 := World.rowIs.frozen F9 0; have y1 := World.rowIs.frozen F9 1; have y2 := World.rowIs.frozen F9 2; have y3 := World.rowIs.frozen F9 3) | (go_at_call 101; refine P4.mono ?_; rintro e w7 ⟨v7, g7, rfl, V7, av7, i7, e7, a7, l7, vs7, S7, G7, T7⟩; obtain ⟨op7, x7, y7, aa7, n7, cap7, rfl⟩ := V7.form; have K47 := S4.rkeep G7 (fun _ => True); have B7 := rowIs_keepR K47 trivial B4; have F7 := rowIs_keepR (KR.trans K47) trivial HR.out.res; have hlt7 := World.rowIs.lt B7; have K78 : Kept0 w7 (w7.alloc (.cells #[.int .i64 op7, .int .i64 x7, .int .i64 y7, .slice aa7 n7 cap7] 94)) := Kept.alloc (Kept.refl _ w7) _; obtain ⟨t0, t1, t2, t3⟩ := form_cellsR B7; have hz7 : w4.heap.size ≤ w7.heap.size := G7.kept.size; have hz4 := World.rowIs.lt B4; have TW := rtwo_in (w7.alloc (.cells #[.int .i64 op7, .int .i64 x7, .int .i64 y7, .slice aa7 n7 cap7] 94)) (fun k => w.heap.size + 1 ≤ k) (.pointer (some ⟨r, 0, none⟩)) (.agg #[.int .i64 op5, .int .i64 x5, .int .i64 y5, .slice aa5 n5 cap5]) (.agg #[.int .i64 op7, .int .i64 x7, .int .i64 y7, .slice aa7 n7 cap7]) 4 g5 g7 ((HR.out.val.mono (fun k hk => hk.1)).keep (((KR.mono (fun _ _ => trivial)).trans (K47.mono (fun _ _ => trivial))).trans (RKeep.kept0 K78 _))) ((V7.mono (fun k hk => Nat.le_trans (Nat.le_trans hbf (Nat.le_of_lt hz4)) hk)).keep (RKeep.kept0 K78 _)) (fun k hk => by simp at hk; omega)) | (go_at_call 130; refine SE.mono ?_; rintro e w4 ⟨rfl, R4, K4⟩; simp only [if_true] at R4; have KR := HR.out.st.rkeep (((GR.refl r _ av5).kept1 K3).kept1 K4) (fun _ => True); have B4 := rowIs_keepR KR trivial HR.out.box; have S4 := (HR.out.st.read K3 R3).read K4 R4; have P4 := PT w4 S4) | (go_at_call 114; refine HAS.mono ?_; rintro e w3 ⟨rfl, R3, K3⟩; have SE := SEC w3 R3))
      have S9 := (S7.kept0 K78).kept0 K9
      have N := finR S9 F9 V9 ((((HR.out.grew.kept1 K3).kept1 K4).trans G7).kept0 K78 |>.kept0 K9)
      unfold put4 at N
      clear q0 q1 q2 q3 y0 y1 y2 y3 t0 t1 t2 t3
      generalize ((((w9).setCell ⟨w.heap.size, 0, none⟩ (.int .i64 op9)).setCell ⟨w.heap.size, 1, none⟩ (.int .i64 x9)).setCell ⟨w.heap.size, 2, none⟩ (.int .i64 y9)).setCell ⟨w.heap.size, 3, none⟩ (.slice aa9 n9 cap9) = w10 at N ⊢
      obtain ⟨z0, z1, z2, z3, V8, P8, G8⟩ := N
      refine ⟨rfl, .agg #[.int .i64 op9, .int .i64 x9, .int .i64 y9, .slice aa9 n9 cap9], by simp [results, Try.results101, go_sem, z0, z1, z2, z3], ?_⟩
      exact ⟨_, _, rfl, V8, av7, i7, e7, a7, l7, vs7, P8, G8, HT.out _ _ _ _ _ T7.out⟩

theorem form_at (f : Nat) (H1 : At5 129 1 f) (H0 : At5 101 0 f) : At5 101 0 (f + 1) := by
  intro w base r av s i d l vs h hf hd
  have hle := bl_le h.rd.le
  rw [gp, if_pos rfl]
  refine form_walk f H0 w base r av s i 0 0 d l vs h _ (fun o => ?_) (fun g k l1 hg => ?_)
  · exact (H1 (w.alloc o) base r av s i d l vs (h.kept0 (Kept.alloc (Kept.refl _ w) o)) (by omega) hd)
  · have := (gp_ok s f).1 1 d (bl s i) l g k l1 hle hg
    omega
theorem form_er (H : Er5 129) : Er5 101 := by
  intro w base r av s i e a d l vs h he hd
  exact form_walk 0 (fun _ _ _ _ _ _ _ _ _ _ hf => absurd hf (by omega)) w base r av s i e a d l vs h (.bad e a l) (fun o => H (w.alloc o) base r av s i e a d l vs (h.kept0 (Kept.alloc (Kept.refl _ w) o)) he hd) (fun g k l1 hg => by cases hg)

end Go.Proofs.Ytinphcnknionmaa.Q5

namespace Go.Proofs.Ytinphcnknionmaa.Q5
open Go.RowKit

set_option maxRecDepth 100000 in
set_option maxHeartbeats 1000000 in
theorem not_er : Er5 178 := by
  intro w base r av s i e a d l vs h he hd
  have KA : Kept0 w (w.alloc (.cells #[.int .i64 0, .int .i64 0, .int .i64 0, .slice none 0 0] 94)) := Kept.alloc (Kept.refl _ w) _
  have S1 := h.kept0 KA
  have F1 := made_formR w (.int .i64 0) (.int .i64 0) (.int .i64 0) (.slice none 0 0)
  have G1 := (GR.refl r w av).kept0 KA
  have c3 := h.rd.c3
  have hr := h.rd.row.lt
  have de : ((e : Int) != 0) = true := by simp; omega
  go_enter Try.func178, Try.ntmps178
  go_wp2_with fail
  refine ⟨rfl, .agg #[.int .i64 0, .int .i64 0, .int .i64 0, .slice none 0 0], by simp [results, Try.results178, go_sem], ?_⟩
  exact ⟨_, .eq 0 0, rfl, RVal.eq _ _ 0 0, av, i, e, a, l, vs, S1, G1, ⟨he, rfl, rfl, rfl⟩⟩

def negR (R : Res Fo) : Res Fo := R.bind fun a k l1 => .ok (.neg a) k l1
def parR (s : ByteArray) (R : Res Fo) : Res Fo := R.bind fun a k l1 => if stands s k 41 then .ok a (bl s (k + 1)) l1 else .bad 2 k l1

/-- What a call within is handed. -/
def inR (s : ByteArray) (f lev d k : Nat) (l : List Tm) : Res Fo := if 20 ≤ d then .bad 4 k l else gp s f lev (d + 1) (bl s (k + 1)) l

theorem in_call (fn lev f : Nat) (H : At5 fn lev f) (E : Er5 fn) (base r : Nat) (av : Value) (s : ByteArray) (k d : Nat) (l : List Tm) (vs : List Value) (hd : d ≤ 20) (hf : 6 * (s.size - bl s (k + 1)) + 5 ≤ f + lev) (W : World) (S : S0 (d + 1) W base r av s (k + 1) (if 20 ≤ d then 4 else 0) (if 20 ≤ d then k else 0) l vs) :
    Calls Try.prog fn #[.pointer (some ⟨r, 0, none⟩)] W (PoPost (d + 1) W base r av s (inR s f lev d k l)) := by
  unfold inR
  by_cases h : 20 ≤ d
  · rw [if_pos h, if_pos h] at S
    rw [if_pos h]
    exact E W base r av s (k + 1) 4 k (d + 1) l vs S (by decide) (by omega)
  · rw [if_neg h, if_neg h] at S
    rw [if_neg h]
    exact H W base r av s (k + 1) (d + 1) l vs S hf (by omega)

set_option maxRecDepth 100000 in
set_option maxHeartbeats 2000000 in
theorem not_bang (f : Nat) (H : At5 178 3 f) (w : World) (base r : Nat) (av : Value) (s : ByteArray) (i d : Nat) (l : List Tm) (vs : List Value) (h : S0 d w base r av s i 0 0 l vs) (hf : 6 * (s.size - bl s i) + 5 ≤ f + 1 + 3) (hd : d ≤ 20) (hb : byt s (bl s i) = 33) :
    Calls Try.prog 178 #[.pointer (some ⟨r, 0, none⟩)] w (PoPost d w base r av s (negR (inR s f 3 d (bl s i) l))) := by
  have KA : Kept0 w (w.alloc (.cells #[.int .i64 0, .int .i64 0, .int .i64 0, .slice none 0 0] 94)) := Kept.alloc (Kept.refl _ w) _
  have S1 := h.kept0 KA
  have F1 := made_formR w (.int .i64 0) (.int .i64 0) (.int .i64 0) (.slice none 0 0)
  have G1 := (GR.refl r w av).kept0 KA
  have c3 := h.rd.c3
  have hr := h.rd.row.lt
  have hsm := h.rd.small
  have hi2 := byt_in hb (by omega)
  have hbg := bl_ge s (bl s i + 1)
  have IS := is_in _ r s i av 0 0 S1.rd 33
  rw [show isB s i 0 33 = true by simp [isB, stands_of hb (by decide)]] at IS
  have CC := in_call 178 3 f H not_er base r av s (bl s i) d l vs hd (by omega)
  generalize inR s f 3 d (bl s i) l = R1 at *
  have HS : Hid (_ ∧ _ ∧ _) := And.intro S1 (And.intro F1 G1)
  clear S1 F1 G1 h H
  go_enter Try.func178, Try.ntmps178
  go_wp2_with (first | (go_at_call 178; refine C5.mono ?_; rintro e w7 ⟨v7, g7, rfl, V7, av7, i7, e7, a7, l7, vs7, S7, G7, T7⟩; obtain ⟨op7, x7, y7, aa7, n7, cap7, rfl⟩ := V7.form; have c57 := S7.rd.c5; have f57 := S7.rd.row.frozen 5; have hr7 := S7.rd.row.lt; have KR7 := (KR.trans (RKeep.of_kept K5 (fun k hk c fz => by rw [hk]; exact noForm_of R4.row (by decide) c fz) _)).trans (S5.rkeep G7 (fun _ => True)); have F7 := rowIs_keepR KR7 trivial HS.out.2.1; have hlt7 := World.rowIs.lt F7; obtain ⟨z0, z1, z2, z3⟩ := form_cellsR F7; have y0 := World.rowIs.frozen F7 0; have y1 := World.rowIs.frozen F7 1; have y2 := World.rowIs.frozen F7 2; have y3 := World.rowIs.frozen F7 3) | (go_at_call 188; refine NE.mono ?_; rintro e w4 ⟨rfl, R4, K4⟩; have c14 := R4.c1; have f14 := R4.row.frozen 1; have R5 := R4.step (k := bl s i + 1) (by omega); have K5 : Kept1 r w4 (w4.setCell ⟨r, 1, none⟩ (.int .i64 ((bl s i + 1 : Nat) : Int))) := Kept1.set (Kept.refl _ w4) 1 _; rw [show ((bl s i + 1 : Nat) : Int) = (bl s i : Int) + 1 from by omega] at R5 K5; have S5 := ((HS.out.1.read K3 R3).read K4 R4).read K5 R5; have C5 := CC _ S5; have KR := HS.out.1.rkeep (((GR.refl r _ av).kept1 K3).kept1 K4) (fun _ => True)) | (go_at_call 147; refine IS.mono ?_; rintro e w3 ⟨rfl, R3, K3⟩; have NE := nest_in hd w3 r s (bl s i) av 0 R3))
  have K8 : Kept1 r w7 (w7.setCell ⟨r, 5, none⟩ (.int .i64 (d : Int))) := Kept1.set (Kept.refl _ w7) 5 _
  have S8 := S7.read K8 (S7.rd.deep (d : Int))
  have hz5 : w.heap.size + 1 ≤ w7.heap.size := hlt7
  have hzw : ∀ k, (w4.setCell ⟨r, 1, none⟩ (.int .i64 ((bl s i : Int) + 1))).heap.size ≤ k → w.heap.size + 1 ≤ k := fun k hk => by
    have h1 := K3.size
    have h2 := K4.size
    have h3 := K5.size
    simp at h1
    omega
  have KR8 : ∀ A, RKeep A w7 (w7.setCell ⟨r, 5, none⟩ (.int .i64 (d : Int))) := fun A => RKeep.of_kept K8 (fun k hk c fz => by rw [hk]; exact noForm_of S7.rd.row (by decide) c fz) A
  have F8 := rowIs_keepR (KR8 (fun _ => True)) trivial F7
  have V8 := (V7.mono (A' := fun k => w.heap.size + 1 ≤ k) hzw).keep (KR8 _)
  have G8 : GR r w av (w7.setCell ⟨r, 5, none⟩ (.int .i64 (d : Int))) av7 := ((((HS.out.2.2.kept1 K3).kept1 K4).kept1 K5).trans G7).kept1 K8
  have hz8 : (w7.setCell ⟨r, 5, none⟩ (.int .i64 (d : Int))).heap.size = w7.heap.size := by simp [World.setCell]
  have HT : Hid (Rel s (negR R1) (.neg g7) i7 e7 a7 l7) := by
    have T := T7.out
    cases R1 with
    | ok b k2 l2 =>
      obtain ⟨rfl, rfl, rfl, rfl, rfl⟩ := T
      exact ⟨rfl, rfl, rfl, rfl, rfl⟩
    | bad c q l2 => exact T
  clear z0 z1 z2 z3 y0 y1 y2 y3 c57 f57 c14 f14
  generalize w7.setCell ⟨r, 5, none⟩ (.int .i64 (d : Int)) = w8 at *
  have S9 := S8.put F8 (put_kept w8 w.heap.size (.int .i64 1) (.int .i64 0) (.int .i64 0) (.slice (some ⟨w7.heap.size + 1, 0, none⟩) 1 1))
  have F9 := put_formR F8 (.int .i64 1) (.int .i64 0) (.int .i64 0) (.slice (some ⟨w7.heap.size + 1, 0, none⟩) 1 1)
  have G9 := GR.put G8 (Nat.le_refl _) (put_kept w8 w.heap.size (.int .i64 1) (.int .i64 0) (.int .i64 0) (.slice (some ⟨w7.heap.size + 1, 0, none⟩) 1 1))
  have V9 := V8.keep (put_keepR (w := w8) (b := w.heap.size) (by omega) (.int .i64 1) (.int .i64 0) (.int .i64 0) (.slice (some ⟨w7.heap.size + 1, 0, none⟩) 1 1))
  have hz9 := put_size w8 w.heap.size (.int .i64 1) (.int .i64 0) (.int .i64 0) (.slice (some ⟨w7.heap.size + 1, 0, none⟩) 1 1)
  unfold put4 at S9 F9 G9 V9 hz9
  generalize (((w8.setCell ⟨w.heap.size, 0, none⟩ (.int .i64 1)).setCell ⟨w.heap.size, 1, none⟩ (.int .i64 0)).setCell ⟨w.heap.size, 2, none⟩ (.int .i64 0)).setCell ⟨w.heap.size, 3, none⟩ (.slice (some ⟨w7.heap.size + 1, 0, none⟩) 1 1) = w9 at *
  have K10 : Kept0 w9 (w9.alloc (.cells #[.int .i64 op7, .int .i64 x7, .int .i64 y7, .slice aa7 n7 cap7] 94)) := Kept.alloc (Kept.refl _ w9) _
  have V10 := V9.keep (RKeep.kept0 K10 _)
  have hz10 : (w9.alloc (.cells #[.int .i64 op7, .int .i64 x7, .int .i64 y7, .slice aa7 n7 cap7] 94)).heap.size = w7.heap.size + 1 := by simp; omega
  have V11 := V10.one (by rw [hz10]; omega)
  rw [hz10] at V11
  have K11 := Kept.alloc K10 (.cells #[.int .i64 op7, .int .i64 x7, .int .i64 y7, .slice aa7 n7 cap7] 94)
  have F11 := rowIs_keepR (RKeep.kept0 K11 (fun _ => True)) trivial F9
  have S11 := S9.kept0 K11
  have G11 := G9.kept0 K11
  obtain ⟨z0, z1, z2, z3⟩ := form_cellsR F11
  generalize (w9.alloc (.cells #[.int .i64 op7, .int .i64 x7, .int .i64 y7, .slice aa7 n7 cap7] 94)).alloc (.cells #[.int .i64 op7, .int .i64 x7, .int .i64 y7, .slice aa7 n7 cap7] 94) = w11 at *
  refine ⟨rfl, .agg #[.int .i64 1, .int .i64 0, .int .i64 0, .slice (some ⟨w7.heap.size + 1, 0, none⟩) 1 1], by simp [results, Try.results178, go_sem, z0, z1, z2, z3], ?_⟩
  exact ⟨_, _, rfl, V11.mono (fun k hk => by omega), av7, i7, e7, a7, l7, vs7, S11, G11, HT⟩

/-- Deep is as before, and a Form is put into the box of the result. -/
theorem par_end {d : Nat} {w W : World} {base r : Nat} {av av' : Value} {s : ByteArray} {i e a : Nat} {l : List Tm} {vs : List Value} (S : S0 (d + 1) W base r av' s i e a l vs) {f : Nat → Value} (F : W.rowIs w.heap.size 94 4 f) {op x y : Int} {aa : Option Addr} {n cap : Nat} {g : Fo}
    (V : RVal (fun k => w.heap.size + 1 ≤ k) W (.agg #[.int .i64 op, .int .i64 x, .int .i64 y, .slice aa n cap]) g) (G : GR r w av W av') :
    (put4 (W.setCell ⟨r, 5, none⟩ (.int .i64 (d : Int))) w.heap.size (.int .i64 op) (.int .i64 x) (.int .i64 y) (.slice aa n cap)).cell? ⟨w.heap.size, 0, none⟩ = some (.int .i64 op) ∧ (put4 (W.setCell ⟨r, 5, none⟩ (.int .i64 (d : Int))) w.heap.size (.int .i64 op) (.int .i64 x) (.int .i64 y) (.slice aa n cap)).cell? ⟨w.heap.size, 1, none⟩ = some (.int .i64 x) ∧ (put4 (W.setCell ⟨r, 5, none⟩ (.int .i64 (d : Int))) w.heap.size (.int .i64 op) (.int .i64 x) (.int .i64 y) (.slice aa n cap)).cell? ⟨w.heap.size, 2, none⟩ = some (.int .i64 y) ∧ (put4 (W.setCell ⟨r, 5, none⟩ (.int .i64 (d : Int))) w.heap.size (.int .i64 op) (.int .i64 x) (.int .i64 y) (.slice aa n cap)).cell? ⟨w.heap.size, 3, none⟩ = some (.slice aa n cap) ∧
      RVal (fun k => w.heap.size ≤ k) (put4 (W.setCell ⟨r, 5, none⟩ (.int .i64 (d : Int))) w.heap.size (.int .i64 op) (.int .i64 x) (.int .i64 y) (.slice aa n cap)) (.agg #[.int .i64 op, .int .i64 x, .int .i64 y, .slice aa n cap]) g ∧
      S0 d (put4 (W.setCell ⟨r, 5, none⟩ (.int .i64 (d : Int))) w.heap.size (.int .i64 op) (.int .i64 x) (.int .i64 y) (.slice aa n cap)) base r av' s i e a l vs ∧ GR r w av (put4 (W.setCell ⟨r, 5, none⟩ (.int .i64 (d : Int))) w.heap.size (.int .i64 op) (.int .i64 x) (.int .i64 y) (.slice aa n cap)) av' := by
  have K8 : Kept1 r W (W.setCell ⟨r, 5, none⟩ (.int .i64 (d : Int))) := Kept1.set (Kept.refl _ W) 5 _
  have KR8 : ∀ A, RKeep A W (W.setCell ⟨r, 5, none⟩ (.int .i64 (d : Int))) := fun A => RKeep.of_kept K8 (fun k hk c fz => by rw [hk]; exact noForm_of S.rd.row (by decide) c fz) A
  exact finR (S.read K8 (S.rd.deep (d : Int))) (rowIs_keepR (KR8 (fun _ => True)) trivial F) (V.keep (KR8 _)) (G.kept1 K8)

set_option maxRecDepth 100000 in
set_option maxHeartbeats 2000000 in
theorem not_paren (f : Nat) (H : At5 101 0 f) (E0 : Er5 101) (w : World) (base r : Nat) (av : Value) (s : ByteArray) (i d : Nat) (l : List Tm) (vs : List Value) (h : S0 d w base r av s i 0 0 l vs) (hf : 6 * (s.size - bl s i) + 5 ≤ f + 1 + 3) (hd : d ≤ 20) (hb : byt s (bl s i) = 40) :
    Calls Try.prog 178 #[.pointer (some ⟨r, 0, none⟩)] w (PoPost d w base r av s (parR s (inR s f 0 d (bl s i) l))) := by
  have KA : Kept0 w (w.alloc (.cells #[.int .i64 0, .int .i64 0, .int .i64 0, .slice none 0 0] 94)) := Kept.alloc (Kept.refl _ w) _
  have S1 := h.kept0 KA
  have F1 := made_formR w (.int .i64 0) (.int .i64 0) (.int .i64 0) (.slice none 0 0)
  have G1 := (GR.refl r w av).kept0 KA
  have c3 := h.rd.c3
  have hr := h.rd.row.lt
  have hsm := h.rd.small
  have hi2 := byt_in hb (by omega)
  have hbg := bl_ge s (bl s i + 1)
  have hbb := bl_bl s i
  have hle := bl_le h.rd.le
  have ISA := is_in _ r s i av 0 0 S1.rd 33
  rw [show isB s i 0 33 = false by simp [isB, stands_ne (show ¬ byt s (bl s i) = 33 by omega)]] at ISA
  have ISB := fun W (R : Rr (d : Int) W r s (bl s i) av 0 0) => is_in W r s (bl s i) av 0 0 R 40
  rw [show isB s (bl s i) 0 40 = true by simp [isB, hbb, stands_of hb (by decide)], hbb] at ISB
  have CC := in_call 101 0 f H E0 base r av s (bl s i) d l vs hd (by omega)
  generalize inR s f 0 d (bl s i) l = R1 at *
  have HS : Hid (_ ∧ _ ∧ _) := And.intro S1 (And.intro F1 G1)
  clear S1 F1 G1 h H E0
  go_enter Try.func178, Try.ntmps178
  go_wp2_with (first | (go_at_call 101; refine C5.mono ?_; rintro e w7 ⟨v7, g7, rfl, V7, av7, i7, e7, a7, l7, vs7, S7, G7, T7⟩; obtain ⟨op7, x7, y7, aa7, n7, cap7, rfl⟩ := V7.form; refine Aside.out ?_) | (go_at_call 188; refine NE.mono ?_; rintro e w4 ⟨rfl, R4, K4⟩; have c14 := R4.c1; have f14 := R4.row.frozen 1; have R5 := R4.step (k := bl s i + 1) (by omega); have K5 : Kept1 r w4 (w4.setCell ⟨r, 1, none⟩ (.int .i64 ((bl s i + 1 : Nat) : Int))) := Kept1.set (Kept.refl _ w4) 1 _; rw [show ((bl s i + 1 : Nat) : Int) = (bl s i : Int) + 1 from by omega] at R5 K5; have S5 := (((HS.out.1.read K2 R2).read K3 R3).read K4 R4).read K5 R5; have C5 := CC _ S5; have KR := HS.out.1.rkeep ((((GR.refl r _ av).kept1 K2).kept1 K3).kept1 K4) (fun _ => True)) | (go_at_call 147; refine ISC.mono ?_; rintro e w3 ⟨rfl, R3, K3⟩; have NE := nest_in hd w3 r s (bl s i) av 0 R3) | (go_at_call 147; refine ISA.mono ?_; rintro e w2 ⟨rfl, R2, K2⟩; have ISC := ISB w2 R2; clear ISA ISB))
  delta Aside
  have KR7 := (KR.trans (RKeep.of_kept K5 (fun k hk c fz => by rw [hk]; exact noForm_of R4.row (by decide) c fz) _)).trans (S5.rkeep G7 (fun _ => True))
  have F7 := rowIs_keepR KR7 trivial HS.out.2.1
  have hlt7 := World.rowIs.lt F7
  have hz5 : w.heap.size + 1 ≤ w7.heap.size := hlt7
  have hzw : ∀ k, (w4.setCell ⟨r, 1, none⟩ (.int .i64 ((bl s i : Int) + 1))).heap.size ≤ k → w.heap.size + 1 ≤ k := fun k hk => by
    have h1 := K2.size
    have h0 := K3.size
    have h2 := K4.size
    have h3 := K5.size
    simp at h1
    omega
  have V7' := V7.mono (A' := fun k => w.heap.size + 1 ≤ k) hzw
  have G7' : GR r w av w7 av7 := (((((HS.out.2.2.kept1 K2).kept1 K3).kept1 K4).kept1 K5).trans G7)
  have K8 : Kept0 w7 (w7.alloc (.cells #[.int .i64 op7, .int .i64 x7, .int .i64 y7, .slice aa7 n7 cap7] 94)) := Kept.alloc (Kept.refl _ w7) _
  have F8 := rowIs_keepR (RKeep.kept0 K8 (fun _ => True)) trivial F7
  have B8 := made_formR w7 (.int .i64 op7) (.int .i64 x7) (.int .i64 y7) (.slice aa7 n7 cap7)
  have S8 := S7.kept0 K8
  have V8 := V7'.keep (RKeep.kept0 K8 _)
  have G8 := G7'.kept0 K8
  have hle7 := bl_le S7.rd.le
  have HAS := rhas1_in _ r s i7 av7 e7 a7 S8.rd 41
  have H8 : Hid (_ ∧ _ ∧ _ ∧ _ ∧ _) := And.intro S8 (And.intro F8 (And.intro B8 (And.intro V8 G8)))
  have T := T7.out
  clear S8 F8 B8 V8 G8 G7' V7' F7 KR7 C5 S5 K5 R5 R4 K4 f14 c14 NE ISC R3 K3 K2 R2 V7 G7 KR CC HS
  have hr7 := S7.rd.row.lt
  have hrb : r ≠ w7.heap.size := by omega
  clear S7 K8
  generalize hbfe : w7.heap.size = bf at *
  generalize hw8 : w7.alloc (.cells #[.int .i64 op7, .int .i64 x7, .int .i64 y7, .slice aa7 n7 cap7] 94) = w8 at *
  apply_assumption
  cases hB : isB s i7 e7 41 with
  | true =>
    rw [hB] at HAS
    rw [show hasI s i7 e7 41 = bl s i7 + 1 by simp [hasI, hB]] at HAS
    have HT : Hid (Rel s (parR s R1) g7 (bl s i7 + 1) e7 a7 l7) := by
      obtain ⟨rfl, hst⟩ : e7 = 0 ∧ stands s (bl s i7) 41 = true := by simpa [isB] using hB
      cases R1 with
      | ok b k2 l2 =>
        obtain ⟨rfl, _, rfl, rfl, rfl⟩ := T
        simp only [parR, Res.bind, if_pos hst]
        exact ⟨rfl, rfl, rfl, rfl, rfl⟩
      | bad c q l2 => exact absurd T.2.1.symm T.1
    clear T T7
    go_wp2_with (first | (go_at_call 114; refine HAS.mono ?_; rintro e w9 ⟨rfl, R9, K9⟩; have KR9 := H8.out.1.rkeep ((GR.refl r _ av7).kept1 K9) (fun _ => True); have B9 := rowIs_keepR KR9 trivial H8.out.2.2.1; have F9 := rowIs_keepR KR9 trivial H8.out.2.1; have c59 := R9.c5; have f59 := R9.row.frozen 5; obtain ⟨t0, t1, t2, t3⟩ := form_cellsR B9; obtain ⟨z0, z1, z2, z3⟩ := form_cellsR F9; have y0 := World.rowIs.frozen F9 0; have y1 := World.rowIs.frozen F9 1; have y2 := World.rowIs.frozen F9 2; have y3 := World.rowIs.frozen F9 3))
    have N := par_end (H8.out.1.read K9 R9) F9 (H8.out.2.2.2.1.keep (KR9.mono (fun _ _ => trivial))) (H8.out.2.2.2.2.kept1 K9)
    unfold put4 at N
    clear z0 z1 z2 z3 y0 y1 y2 y3 t0 t1 t2 t3 c59 f59
    generalize ((((w9.setCell ⟨r, 5, none⟩ (.int .i64 (d : Int))).setCell ⟨w.heap.size, 0, none⟩ (.int .i64 op7)).setCell ⟨w.heap.size, 1, none⟩ (.int .i64 x7)).setCell ⟨w.heap.size, 2, none⟩ (.int .i64 y7)).setCell ⟨w.heap.size, 3, none⟩ (.slice aa7 n7 cap7) = w10 at N ⊢
    obtain ⟨z0, z1, z2, z3, V10, S10, G10⟩ := N
    refine ⟨rfl, .agg #[.int .i64 op7, .int .i64 x7, .int .i64 y7, .slice aa7 n7 cap7], by simp [results, Try.results178, go_sem, z0, z1, z2, z3], ?_⟩
    exact ⟨_, _, rfl, V10, av7, _, e7, a7, l7, vs7, S10, G10, HT⟩
  | false =>
    rw [hB] at HAS
    rw [show hasI s i7 e7 41 = bl s i7 by simp [hasI, hB]] at HAS
    have HT : Hid (Rel s (parR s R1) g7 (bl s i7) (failE e7 2) (failA e7 a7 (bl s i7)) l7) := by
      cases R1 with
      | ok b k2 l2 =>
        obtain ⟨rfl, rfl, rfl, rfl, rfl⟩ := T
        have hst : ¬ stands s (bl s i7) 41 = true := by simpa [isB] using hB
        simp only [parR, Res.bind, if_neg hst]
        exact ⟨by decide, rfl, rfl, rfl⟩
      | bad c q l2 =>
        obtain ⟨hc, rfl, rfl, rfl⟩ := T
        exact ⟨hc, if_neg hc, if_neg hc, rfl⟩
    clear T T7
    go_wp2_with (first | (go_at_call 114; refine HAS.mono ?_; rintro e w9 ⟨rfl, R9, K9⟩; have c19 := R9.c1; have FAIL := fun m => fail_in (w9.drewN m) r s (bl s i7) av7 e7 a7 (R9.drewN m) 2 (bl s i7)))
    clear HAS
    go_region_with (go_at_call 70; refine (FAIL 1).mono ?_; rintro e w10 ⟨rfl, R10, K10⟩; have KX := Kept.trans (Kept.drewN (Kept.refl _ w9) 1) K10; have KR9 := H8.out.1.rkeep (((GR.refl r _ av7).kept1 K9).kept1 KX) (fun _ => True); have B9 := rowIs_keepR KR9 trivial H8.out.2.2.1; have F9 := rowIs_keepR KR9 trivial H8.out.2.1; have c59 := R10.c5; have f59 := R10.row.frozen 5; obtain ⟨t0, t1, t2, t3⟩ := form_cellsR B9; obtain ⟨z0, z1, z2, z3⟩ := form_cellsR F9; have y0 := World.rowIs.frozen F9 0; have y1 := World.rowIs.frozen F9 1; have y2 := World.rowIs.frozen F9 2; have y3 := World.rowIs.frozen F9 3)
    all_goals
      clear c19 FAIL
      go_wp2_with fail
      have N := par_end ((H8.out.1.read K9 R9).read KX R10) F9 (H8.out.2.2.2.1.keep (KR9.mono (fun _ _ => trivial))) ((H8.out.2.2.2.2.kept1 K9).kept1 KX)
      unfold put4 at N
      clear z0 z1 z2 z3 y0 y1 y2 y3 t0 t1 t2 t3 c59 f59
      generalize ((((w10.setCell ⟨r, 5, none⟩ (.int .i64 (d : Int))).setCell ⟨w.heap.size, 0, none⟩ (.int .i64 op7)).setCell ⟨w.heap.size, 1, none⟩ (.int .i64 x7)).setCell ⟨w.heap.size, 2, none⟩ (.int .i64 y7)).setCell ⟨w.heap.size, 3, none⟩ (.slice aa7 n7 cap7) = w11 at N ⊢
      obtain ⟨z0, z1, z2, z3, V11, S11, G11⟩ := N
      refine ⟨rfl, .agg #[.int .i64 op7, .int .i64 x7, .int .i64 y7, .slice aa7 n7 cap7], by simp [results, Try.results178, go_sem, z0, z1, z2, z3], ?_⟩
      exact ⟨_, _, rfl, V11, av7, _, _, _, l7, vs7, S11, G11, HT⟩

end Go.Proofs.Ytinphcnknionmaa.Q5
