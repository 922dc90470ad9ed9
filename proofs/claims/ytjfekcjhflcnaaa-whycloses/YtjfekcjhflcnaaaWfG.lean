/- law03: Load, ints; what the constant text says. law03: alive; two closures of one bank. law03: within, args. law04: Given. law04: what its constant texts say; the only choice. law04: alive. law04: WhyCloses' walk. law04: WhyCloses' walk. WhyCloses: the statement. -/
import Derived.Test.YtjfekcjhflcnaaaClR
import Derived.Test.YtjfekcjhflcnaaaBackD
import Derived.Test.YtjfekcjhflcnaaaWyG
import Derived.Deep.RegionWith
import Derived.Test.YtjfekcjhflcnaaaRefP
import Derived.SizedLaws
namespace Go.Proofs.Ytjfekcjhflcnaaa
open Go.RowKit Go.Maps

theorem Duo.bd {w W : World} {p : Nat} {ev : Value} {nb fb : Nat} {l : List Tm} {q : Nat} {av : Value} {vs : List Value} (h : Duo w W p ev nb fb l q av vs) : Cc.Bd l :=
  ⟨fun n t ht a ha => by have h1 := h.nq.ahd n t ht a ha; have h2 := (List.getElem?_eq_some_iff.1 ht).1; omega, h.kl.good.four, h.kl.good.one, h.b.nodup⟩

theorem Duo.kept0 {w W W' : World} {p : Nat} {ev : Value} {nb fb : Nat} {l : List Tm} {q : Nat} {av : Value} {vs : List Value} (h : Duo w W p ev nb fb l q av vs) (K : Kept0 W W') : Duo w W' p ev nb fb l q av vs :=
  ⟨h.b.kept0 K, h.r.kept K (fun _ _ _ _ _ _ _ e => e), h.kl, h.nq, h.bel.trans (Kept.below K h.bel.size (fun _ e => e.elim)), h.rq⟩

set_option maxHeartbeats 2000000 in
set_option maxRecDepth 100000 in
theorem load_in (w : World) (a : Option Addr) (cp : Nat) (ss : List ByteArray) (hT : Texts w a ss) (hm : ss.length ≤ maxLen) :
    Calls Try.prog 37 #[.slice a ss.length cp] w fun e w' => ∃ p ev nb fb l q av vs, e = .returned (.tuple #[.pointer (some ⟨p, 0, none⟩), av]) ∧ Duo w w' p ev nb fb l q av vs := by
  unfold maxLen at hm
  have NEW1 := tNew_any w
  go_enter Try.func37, Try.ntmps37
  go_wp2_with (first | (go_at_call 15; refine NEW1.mono ?_; rintro e w1 ⟨p, nb, fb, rfl, H1, B1⟩; have T0 := Duo.start w w1 p nb fb H1 B1))
  clear NEW1 H1 B1
  generalize w1.alloc (.cells #[.slice none 0 0] 28) = w3 at T0 ⊢
  generalize w1.heap.size = q at T0 ⊢
  go_loopw [6] (fun t6 W => ∃ k : Nat, k ≤ ss.length ∧ t6 = .int .i64 (k : Int) ∧ ∃ ev l av vs, Duo w W p ev nb fb l q av vs) (fun t6 _ => ss.length - (intOf t6).toNat)
  case atStart => exact ⟨0, by omega, rfl, _, _, _, _, T0⟩
  case round =>
    clear T0
    obtain ⟨k, hk, rfl, ev, l, av, vs, T⟩ := hrel
    by_cases hk2 : k < ss.length
    · have dk : decide ((k : Int) < (ss.length : Int)) = true := decide_eq_true (by omega)
      rcases hT with e | ⟨b, off, rfl, hb, hc⟩
      · rw [e] at hk2; simp at hk2
      · have hs : ss[k]? = some ss[k] := List.getElem?_eq_getElem hk2
        have ck := hc k _ hs
        generalize ss[k] = s at ck hs
        have c1 := (T.bel.cell (p := ⟨b, off + k, none⟩) hb).trans ck
        have RB := T.read s
        go_wp2_with (first | (go_at_call 16; refine RB.mono ?_; rintro e w5 ⟨rfl, ev5, RR, bel5⟩; have c5 := (bel5.cell (p := ⟨b, off + k, none⟩) hb).trans ck) | (go_at_call 17; refine RR.mono ?_; rintro e w6 ⟨rfl, av6, vs6, T6⟩))
        exact ⟨⟨k + 1, by omega, by simp, _, _, _, _, T6⟩, by simp [intOf]; omega⟩
    · have dk : decide ((k : Int) < (ss.length : Int)) = false := decide_eq_false (by omega)
      have qc : wr.cell? ⟨q, 0, none⟩ = some av := T.r.row.cell (by omega)
      obtain ⟨aa, ac, hav⟩ := T.r.ls.form
      subst hav
      go_wp2_with fail
      go_quiet (fail)
      go_wp2_with fail
      go_ret2
      exact ⟨p, ev, nb, fb, l, q, _, vs, rfl, T.kept0 ((Kept.refl _ wr).drewN nq)⟩

set_option maxHeartbeats 1000000 in
set_option maxRecDepth 100000 in
theorem ints_in (w : World) (b1 b2 n : Nat) (f : Nat → Nat) (R1 : w.rowIs b1 3 n (fun i => .int .i64 (f i : Int))) (R2 : w.rowIs b2 3 n (fun i => .int .i64 (f i : Int))) (hn : n ≤ 1000) :
    Calls Try.prog 45 #[.slice (some ⟨b1, 0, none⟩) n n, .slice (some ⟨b2, 0, none⟩) n n] w fun e w' => e = .returned (.bool true) ∧ Kept0 w w' := by
  go_enter Try.func45, Try.ntmps45
  go_wp2_with fail
  go_loopw [5] (fun t5 W => ∃ k : Nat, k ≤ n ∧ t5 = .int .i64 (k : Int) ∧ Kept0 w W) (fun t5 _ => n - (intOf t5).toNat)
  case atStart => exact ⟨0, by omega, rfl, Kept.refl _ _⟩
  case round =>
    obtain ⟨k, hk, rfl, K⟩ := hrel
    by_cases hk2 : k < n
    · have dk : decide ((k : Int) < (n : Int)) = true := decide_eq_true (by omega)
      have x1 := (World.rowIs.of_block R1 (K.block _ R1.lt (fun e => e))).cell (i := k) hk2
      have x2 := (World.rowIs.of_block R2 (K.block _ R2.lt (fun e => e))).cell (i := k) hk2
      have HK : Hid _ := K
      clear K R1 R2
      go_wp2_with fail
      go_quiet (fail)
      go_wp2_with fail
      exact ⟨⟨k + 1, by omega, by simp, HK.out.drewN _⟩, by simp [intOf]; omega⟩
    · have dk : decide ((k : Int) < (n : Int)) = false := decide_eq_false (by omega)
      clear R1 R2
      go_wp2_with fail
      go_ret
      exact ⟨rfl, K⟩

/-- f(f(f(f(f(a))))) -/
def tx5 : ByteArray := ⟨#[102, 40, 102, 40, 102, 40, 102, 40, 102, 40, 97, 41, 41, 41, 41, 41]⟩
def tf (k : Nat) : Tm := ⟨⟨#[102]⟩, [k]⟩
theorem t5_n0 : nmE tx5 0 = 1 := by rw [nmE_at (by decide) (by decide), nmE_end (by decide)]
theorem t5_w0 : badNm tx5 0 = false := by simp only [badNm, t5_n0]; decide
theorem t5_n2 : nmE tx5 2 = 3 := by rw [nmE_at (by decide) (by decide), nmE_end (by decide)]
theorem t5_w2 : badNm tx5 2 = false := by simp only [badNm, t5_n2]; decide
theorem t5_n4 : nmE tx5 4 = 5 := by rw [nmE_at (by decide) (by decide), nmE_end (by decide)]
theorem t5_w4 : badNm tx5 4 = false := by simp only [badNm, t5_n4]; decide
theorem t5_n6 : nmE tx5 6 = 7 := by rw [nmE_at (by decide) (by decide), nmE_end (by decide)]
theorem t5_w6 : badNm tx5 6 = false := by simp only [badNm, t5_n6]; decide
theorem t5_n8 : nmE tx5 8 = 9 := by rw [nmE_at (by decide) (by decide), nmE_end (by decide)]
theorem t5_w8 : badNm tx5 8 = false := by simp only [badNm, t5_n8]; decide
theorem t5_n10 : nmE tx5 10 = 11 := by rw [nmE_at (by decide) (by decide), nmE_end (by decide)]
theorem t5_w10 : badNm tx5 10 = false := by simp only [badNm, t5_n10]; decide
theorem t5_b0 : bl tx5 0 = 0 := bl_end (by decide)
theorem t5_b1 : bl tx5 1 = 1 := bl_end (by decide)
theorem t5_b2 : bl tx5 2 = 2 := bl_end (by decide)
theorem t5_b3 : bl tx5 3 = 3 := bl_end (by decide)
theorem t5_b4 : bl tx5 4 = 4 := bl_end (by decide)
theorem t5_b5 : bl tx5 5 = 5 := bl_end (by decide)
theorem t5_b6 : bl tx5 6 = 6 := bl_end (by decide)
theorem t5_b7 : bl tx5 7 = 7 := bl_end (by decide)
theorem t5_b8 : bl tx5 8 = 8 := bl_end (by decide)
theorem t5_b9 : bl tx5 9 = 9 := bl_end (by decide)
theorem t5_b10 : bl tx5 10 = 10 := bl_end (by decide)
theorem t5_b11 : bl tx5 11 = 11 := bl_end (by decide)
theorem t5_b12 : bl tx5 12 = 12 := bl_end (by decide)
theorem t5_b13 : bl tx5 13 = 13 := bl_end (by decide)
theorem t5_b14 : bl tx5 14 = 14 := bl_end (by decide)
theorem t5_b15 : bl tx5 15 = 15 := bl_end (by decide)
theorem t5_b16 : bl tx5 16 = 16 := bl_end (by decide)
theorem t5_o1 : behind tx5 1 40 = 2 := by rw [behind_true (by decide)]; exact t5_b2
theorem t5_o3 : behind tx5 3 40 = 4 := by rw [behind_true (by decide)]; exact t5_b4
theorem t5_o5 : behind tx5 5 40 = 6 := by rw [behind_true (by decide)]; exact t5_b6
theorem t5_o7 : behind tx5 7 40 = 8 := by rw [behind_true (by decide)]; exact t5_b8
theorem t5_o9 : behind tx5 9 40 = 10 := by rw [behind_true (by decide)]; exact t5_b10
theorem t5_c11 : behind tx5 11 41 = 12 := by rw [behind_true (by decide)]; exact t5_b12
theorem t5_c12 : behind tx5 12 41 = 13 := by rw [behind_true (by decide)]; exact t5_b13
theorem t5_c13 : behind tx5 13 41 = 14 := by rw [behind_true (by decide)]; exact t5_b14
theorem t5_c14 : behind tx5 14 41 = 15 := by rw [behind_true (by decide)]; exact t5_b15
theorem t5_c15 : behind tx5 15 41 = 16 := by rw [behind_true (by decide)]; exact t5_b16
theorem t5_10 (f d : Nat) (hd : ¬ 12 < d) : pTerm tx5 (f + 1) d 10 [] = .ok 0 11 [tA] := by
  rw [pTerm, t5_w10, t5_n10, t5_b11]
  simp only [Bool.false_eq_true, if_false, hd, show stands tx5 11 40 = false from by decide]
  rfl
theorem t5_8 (f d : Nat) (hd : ¬ 11 < d) : pTerm tx5 (f + 3) d 8 [] = .ok 1 12 [tA, tf 0] := by
  rw [pTerm, t5_w8, t5_n8, t5_b9, t5_o9]
  simp only [Bool.false_eq_true, if_false, show ¬ 12 < d from by omega, show stands tx5 9 40 = true from by decide, if_true]
  rw [pArgs, if_neg (by decide), if_neg (by decide), t5_10 f (d + 1) (by omega)]
  simp only [show stands tx5 11 41 = true from by decide, if_true, t5_c11]
  rfl
theorem t5_6 (f d : Nat) (hd : ¬ 10 < d) : pTerm tx5 (f + 5) d 6 [] = .ok 2 13 [tA, tf 0, tf 1] := by
  rw [pTerm, t5_w6, t5_n6, t5_b7, t5_o7]
  simp only [Bool.false_eq_true, if_false, show ¬ 12 < d from by omega, show stands tx5 7 40 = true from by decide, if_true]
  rw [pArgs, if_neg (by decide), if_neg (by decide), t5_8 f (d + 1) (by omega)]
  simp only [show stands tx5 12 41 = true from by decide, if_true, t5_c12]
  rfl
theorem t5_4 (f d : Nat) (hd : ¬ 9 < d) : pTerm tx5 (f + 7) d 4 [] = .ok 3 14 [tA, tf 0, tf 1, tf 2] := by
  rw [pTerm, t5_w4, t5_n4, t5_b5, t5_o5]
  simp only [Bool.false_eq_true, if_false, show ¬ 12 < d from by omega, show stands tx5 5 40 = true from by decide, if_true]
  rw [pArgs, if_neg (by decide), if_neg (by decide), t5_6 f (d + 1) (by omega)]
  simp only [show stands tx5 13 41 = true from by decide, if_true, t5_c13]
  rfl
theorem t5_2 (f d : Nat) (hd : ¬ 8 < d) : pTerm tx5 (f + 9) d 2 [] = .ok 4 15 [tA, tf 0, tf 1, tf 2, tf 3] := by
  rw [pTerm, t5_w2, t5_n2, t5_b3, t5_o3]
  simp only [Bool.false_eq_true, if_false, show ¬ 12 < d from by omega, show stands tx5 3 40 = true from by decide, if_true]
  rw [pArgs, if_neg (by decide), if_neg (by decide), t5_4 f (d + 1) (by omega)]
  simp only [show stands tx5 14 41 = true from by decide, if_true, t5_c14]
  rfl
theorem t5_0 (f d : Nat) (hd : ¬ 7 < d) : pTerm tx5 (f + 11) d 0 [] = .ok 5 16 [tA, tf 0, tf 1, tf 2, tf 3, tf 4] := by
  rw [pTerm, t5_w0, t5_n0, t5_b1, t5_o1]
  simp only [Bool.false_eq_true, if_false, show ¬ 12 < d from by omega, show stands tx5 1 40 = true from by decide, if_true]
  rw [pArgs, if_neg (by decide), if_neg (by decide), t5_2 f (d + 1) (by omega)]
  simp only [show stands tx5 15 41 = true from by decide, if_true, t5_c15]
  rfl
def l6 : List Tm := [tA, tf 0, tf 1, tf 2, tf 3, tf 4]
theorem t5_read : pRead tx5 [] = (5, 0, 0, l6) := by
  rw [pRead, if_neg (by decide), pWhole, t5_b0, show 2 * tx5.size + 1 = 22 + 11 from rfl, t5_0 22 0 (by omega)]
  rfl

theorem l6_no : ∀ i j, Cc.Cg l6 [(3, 0)] i j → i % 3 = j % 3 := by
  intro i j h
  induction h with
  | told hm _ _ => simp at hm; omega
  | refl _ => rfl
  | symm _ ih => exact ih.symm
  | trans _ _ i1 i2 => exact i1.trans i2
  | @cong i j t u h1 h2 h3 h4 _ ih =>
    have hi : i < 6 := (List.getElem?_eq_some_iff.1 h1).1
    have hj : j < 6 := (List.getElem?_eq_some_iff.1 h2).1
    have key : ∀ n v, n < 6 → l6[n]? = some v → (n = 0 ∧ v = tA) ∨ ∃ k, n = k + 1 ∧ v = tf k := by
      intro n v hn hv
      rcases (by omega : n = 0 ∨ n = 1 ∨ n = 2 ∨ n = 3 ∨ n = 4 ∨ n = 5) with rfl | rfl | rfl | rfl | rfl | rfl <;> simp [l6] at hv <;> subst hv
      · exact .inl ⟨rfl, rfl⟩
      · exact .inr ⟨0, rfl, rfl⟩
      · exact .inr ⟨1, rfl, rfl⟩
      · exact .inr ⟨2, rfl, rfl⟩
      · exact .inr ⟨3, rfl, rfl⟩
      · exact .inr ⟨4, rfl, rfl⟩
    rcases key i t hi h1 with ⟨rfl, rfl⟩ | ⟨k, rfl, rfl⟩ <;> rcases key j u hj h2 with ⟨rfl, rfl⟩ | ⟨m, rfl, rfl⟩
    · rfl
    · exact absurd h3 (by simp [tA, tf])
    · exact absurd h3 (by simp [tA, tf])
    · have := ih 0 k m rfl rfl
      omega
theorem l6_yes : Cc.Cg l6 [(3, 0), (5, 0)] 1 0 := by
  have c : ∀ {x y : Nat}, x < 5 → y < 5 → Cc.Cg l6 [(3, 0), (5, 0)] x y → Cc.Cg l6 [(3, 0), (5, 0)] (x + 1) (y + 1) := by
    intro x y hx hy h
    have g : ∀ n, n < 5 → l6[n + 1]? = some (tf n) := fun n hn => by
      rcases (by omega : n = 0 ∨ n = 1 ∨ n = 2 ∨ n = 3 ∨ n = 4) with rfl | rfl | rfl | rfl | rfl <;> rfl
    refine .cong (g x hx) (g y hy) rfl rfl (fun k a b ha hb => ?_)
    cases k with
    | zero => simp [tf] at ha hb; subst ha hb; exact h
    | succ k => simp [tf] at ha
  have h30 : Cc.Cg l6 [(3, 0), (5, 0)] 3 0 := .told (by simp) (by decide) (by decide)
  have h50 : Cc.Cg l6 [(3, 0), (5, 0)] 5 0 := .told (by simp) (by decide) (by decide)
  have h41 := c (by omega) (by omega) h30
  have h52 := c (by omega) (by omega) h41
  have h20 := h52.symm.trans h50
  have h31 := c (by omega) (by omega) h20
  exact h31.symm.trans h30

end Go.Proofs.Ytjfekcjhflcnaaa

namespace Go.Proofs.Ytjfekcjhflcnaaa
open Go.RowKit Go.Maps

theorem l6_bd : Cc.Bd l6 ∧ Kp l6 := by
  have hK : Kp l6 := by have := Kp.nil.read tx5; rw [t5_read] at this; exact this
  have hN : Nq l6 := by have := Nq.nil.read tx5; rw [t5_read] at this; exact this
  refine ⟨⟨fun n t ht a ha => ?_, hK.good.four, hK.good.one, by decide⟩, hK⟩
  have h1 := hN.ahd n t ht a ha
  have h2 := (List.getElem?_eq_some_iff.1 ht).1
  omega


set_option maxHeartbeats 2000000 in
set_option maxRecDepth 100000 in
theorem alive3_any (w : World) : Calls Try.prog 48 #[] w fun e w' => e = .returned (.bool true) ∧ Below w.heap.size w w' := by
  have NEW := tNew_any w
  have hm1 : mergeP l6 [] 3 0 = [(3, 0)] := rfl
  have hm2 : mergeP l6 [(3, 0)] 5 0 = [(3, 0), (5, 0)] := rfl
  have M1 : ∀ w3 c, Cl w3 w.heap.size l6 c [] → Calls Try.prog 39 #[.pointer (some ⟨c.pc, 0, none⟩), .int .i64 3, .int .i64 0] w3 fun e w' => (∃ x, e = .returned (.int .i64 x)) ∧ ∃ c' : Ks, c'.pc = c.pc ∧ Cl w' w.heap.size l6 c' [(3, 0)] ∧ Below w.heap.size w3 w' := fun w3 c C =>
    (kMerge_in w3 w.heap.size l6 c [] C 3 0 (by decide)).mono fun e w' ⟨he, c', C', K, hp, _⟩ => ⟨⟨_, he⟩, c', hp, C', Kept.below K C.un.low (fun k hk => C.foot_ge hk)⟩
  have M2 : ∀ w3 c, Cl w3 w.heap.size l6 c [(3, 0)] → Calls Try.prog 39 #[.pointer (some ⟨c.pc, 0, none⟩), .int .i64 5, .int .i64 0] w3 fun e w' => (∃ x, e = .returned (.int .i64 x)) ∧ ∃ c' : Ks, c'.pc = c.pc ∧ Cl w' w.heap.size l6 c' [(3, 0), (5, 0)] ∧ Below w.heap.size w3 w' := fun w3 c C =>
    (kMerge_in w3 w.heap.size l6 c [(3, 0)] C 5 0 (by decide)).mono fun e w' ⟨he, c', C', K, hp, _⟩ => ⟨⟨_, he⟩, c', hp, C', Kept.below K C.un.low (fun k hk => C.foot_ge hk)⟩
  have S1 : ∀ w3 c, Cl w3 w.heap.size l6 c [(3, 0)] → Calls Try.prog 47 #[.pointer (some ⟨c.pc, 0, none⟩), .int .i64 1, .int .i64 0] w3 fun e w' => e = .returned (.bool false) ∧ ∃ m, w' = w3.drewN m := fun w3 c C => by
    have := kSame_in w3 w.heap.size l6 c _ C 1 0
    have hs : sameB l6.length c.z.g 1 0 = false := by
      cases hc : sameB l6.length c.z.g 1 0
      · rfl
      · have := l6_no 1 0 ((C.un.same (i := 1) (j := 0) (by decide) (by decide)).1 hc)
        omega
    rw [hs] at this
    exact this
  have S2 : ∀ w3 c, Cl w3 w.heap.size l6 c [(3, 0), (5, 0)] → Calls Try.prog 47 #[.pointer (some ⟨c.pc, 0, none⟩), .int .i64 1, .int .i64 0] w3 fun e w' => e = .returned (.bool true) ∧ ∃ m, w' = w3.drewN m := fun w3 c C => by
    have := kSame_in w3 w.heap.size l6 c _ C 1 0
    have hs : sameB l6.length c.z.g 1 0 = true := (C.un.same (i := 1) (j := 0) (by decide) (by decide)).2 l6_yes
    rw [hs] at this
    exact this
  have M1h : Hid _ := M1
  have M2h : Hid _ := M2
  have S1h : Hid _ := S1
  have S2h : Hid _ := S2
  clear M1 M2 S1 S2 hm1 hm2
  go_enter Try.func48, Try.ntmps48
  go_wp2_with (first | (go_at_call 15; refine NEW.mono ?_; rintro e w1 ⟨p, nb, fb, rfl, H1, B1⟩; have RD := tRead_in w1 w.heap.size p _ nb fb [] H1 (by simp) B1.size tx5; rw [t5_read] at RD; unfold tx5 at RD) | (go_at_call 16; refine RD.mono ?_; rintro e w2 ⟨rfl, ev2, H2, K2, _⟩; have NC := kNew_in w2 w.heap.size p ev2 nb fb l6 H2 l6_bd.1 (by decide)) | (go_at_call 38; refine NC.mono ?_; rintro e w3 ⟨c, rfl, C0, K3⟩; have hb2 : w.heap.size ≤ w2.heap.size := Nat.le_trans B1.size K2.size; have C1 := C0.base hb2; have MM1 := M1h.out w3 c C1; replace C0 : Hid _ := C0; replace C1 : Hid _ := C1) | (go_at_call 39; refine MM2.mono ?_; rintro e w6 ⟨⟨x6, rfl⟩, c6, hc6, C6, B6⟩; have SS2 := S2h.out w6 c6 C6; rw [hc6] at SS2; clear MM2) | (go_at_call 39; refine MM1.mono ?_; rintro e w4 ⟨⟨x4, rfl⟩, c4, hc4, C4, B4⟩; have SS1 := S1h.out w4 c4 C4; rw [hc4] at SS1; clear MM1) | (go_at_call 47; refine SS2.mono ?_; rintro e w7 ⟨rfl, m7, rfl⟩; have C7 := C6.kept0 ((Kept.refl _ w6).drewN m7); have MK := kMark_in _ _ _ _ _ C7; rw [hc6] at MK; clear SS2) | (go_at_call 47; refine SS1.mono ?_; rintro e w5 ⟨rfl, m5, rfl⟩; have C5 := C4.kept0 ((Kept.refl _ w4).drewN m5); have MM2 := M2h.out _ c4 C5; rw [hc4] at MM2; clear SS1) | (go_at_call 46; refine MK.mono ?_; rintro e w8 ⟨rfl, rfl⟩))
  go_ret
  have b2 : Below w.heap.size w1 w2 := Kept.below K2 B1.size (fun k e => by
    rcases e with e | e | e | e
    · rw [e]; exact H1.bp
    · rw [e]; exact H1.bn
    · rw [e]; exact H1.bf
    · simp [Value.ownBlock] at e)
  have b3 : Below w.heap.size w2 w3 := Kept.below K3 hb2 (fun _ e => e.elim)
  have s3 := b3.size
  have s4 := B4.size
  have s6 := B6.size
  have b5 : Below w.heap.size w4 (w4.drewN m5) := Kept.below (S := fun _ => False) ((Kept.refl _ w4).drewN m5) (by omega) (fun _ e => e.elim)
  have b7 : Below w.heap.size w6 (w6.drewN m7) := Kept.below (S := fun _ => False) ((Kept.refl _ w6).drewN m7) (by have : w4.heap.size ≤ w6.heap.size := s6; omega) (fun _ e => e.elim)
  exact ⟨rfl, (((((B1.trans b2).trans b3).trans B4).trans b5).trans B6).trans b7⟩

/-- Two closures of one list. -/
structure Cd (w W : World) (l : List Tm) (c d : Ks) (P Q : List (Nat × Nat)) : Prop where
  cl : Cl W w.heap.size l c P
  dl : Cl W w.heap.size l d Q
  dis : ∀ k, c.All k → ¬ d.All k
  bel : Below w.heap.size w W

theorem Cd.swap {w W : World} {l : List Tm} {c d : Ks} {P Q : List (Nat × Nat)} (h : Cd w W l c d P Q) : Cd w W l d c Q P := ⟨h.dl, h.cl, fun k hk hk2 => h.dis k hk2 hk, h.bel⟩
theorem Cd.kept0 {w W W' : World} {l : List Tm} {c d : Ks} {P Q : List (Nat × Nat)} (h : Cd w W l c d P Q) (K : Kept0 W W') : Cd w W' l c d P Q := ⟨h.cl.kept0 K, h.dl.kept0 K, h.dis, h.bel.trans (Kept.below K h.bel.size (fun _ e => e.elim))⟩
theorem Cd.merge {w W : World} {l : List Tm} {c d : Ks} {P Q : List (Nat × Nat)} (h : Cd w W l c d P Q) (a b : Int) (hn : (P.length + 1) * 8 ≤ 140737488355328) :
    Calls Try.prog 39 #[.pointer (some ⟨c.pc, 0, none⟩), .int .i64 a, .int .i64 b] W fun e W' => e = .returned (.int .i64 (mergeE l a b)) ∧ ∃ c' : Ks, c'.pc = c.pc ∧ Cd w W' l c' d (mergeP l P a b) Q ∧ Kept (fun k => w.heap.size ≤ k ∧ ¬ d.All k) W W' := by
  refine (kMerge_in W w.heap.size l c P h.cl a b hn).mono ?_
  rintro e W' ⟨he, c', C', K, hp, hA⟩
  refine ⟨he, c', hp, ⟨C', h.dl.keep K (fun k hk hf => h.dis k hf.all hk), fun k hk hk2 => ?_, h.bel.trans (Kept.below K h.bel.size (fun k hk => h.cl.foot_ge hk))⟩, Kept.mono K (fun k _ hk => ⟨h.cl.foot_ge hk, h.dis k hk.all⟩)⟩
  rcases hA k hk with e | e
  · exact h.dis k e hk2
  · have := h.dl.all_lt hk2; omega

end Go.Proofs.Ytjfekcjhflcnaaa

namespace Go.Proofs.Ytjfekcjhflcnaaa
open Go.RowKit Go.Maps

set_option maxHeartbeats 400000 in
theorem within_in (w : World) (a : Int) (aa : Option Addr) (n ac : Nat) :
    Calls Try.prog 40 #[.int .i64 a, .slice aa n ac] w fun e w' => e = .returned (.bool (inB n a)) ∧ w = w' := by
  go_enter Try.func40, Try.ntmps40
  go_wp2
  · go_ret
    exact ⟨ret_bool (inB_ge ‹_›), rfl⟩
  · go_ret
    exact ⟨ret_bool (inB_lt ‹_›), rfl⟩

set_option maxHeartbeats 2000000 in
set_option maxRecDepth 100000 in
theorem args3_in (W : World) (bc b0 : Nat) (l : List Tm) (c : Ks) (P : List (Nat × Nat)) (C : Cl W bc l c P) (p : Nat) (ev : Value) (nb fb : Nat) (B : Bk W b0 p ev nb fb l) (i j : Nat) (t u : Tm) (ht : l[i]? = some t) (hu : l[j]? = some u) :
    Calls Try.prog 49 #[.pointer (some ⟨c.pc, 0, none⟩), .pointer (some ⟨p, 0, none⟩), .int .i64 (i : Int), .int .i64 (j : Int)] W fun e w' => ∃ bb, e = .returned (.bool bb) ∧ (bb = true → Cc.Cg l P i j) ∧ Kept0 W w' := by
  have T1 := term_some W b0 p ev nb fb l B i t ht
  have T2 : ∀ W', Kept0 W W' → Calls Try.prog 23 #[.pointer (some ⟨p, 0, none⟩), .int .i64 (j : Int)] W' (TermAns W' u) := fun W' K => term_some W' b0 p ev nb fb l (B.kept0 K) j u hu
  have hb := C.un.cz.bd
  have h4 := hb.four t (List.mem_of_getElem? ht)
  have HT2 : Hid _ := T2
  have HH : Hid (_ ∧ _ ∧ _ ∧ _) := ⟨C, B, ht, hu⟩
  clear T2 C B ht hu
  obtain ⟨nm, xs⟩ := t
  obtain ⟨nu, ys⟩ := u
  simp only at h4
  by_cases hnm : nm = nu
  · subst hnm
    by_cases hln : xs.length = ys.length
    · have dn : ((xs.length : Int) != (ys.length : Int)) = false := by rw [hln]; simp
      have hlnh : Hid (xs.length = ys.length) := hln
      clear hln
      go_enter Try.func49, Try.ntmps49
      go_wp2_with (first | (go_at_call 23; refine TT2.mono ?_; rintro e w4 ⟨v2, rfl, O4, B4⟩; obtain ⟨ua, uc, rfl⟩ := row_form' O4; have R5 : ∀ O, (w4.alloc O).rowIs w2.heap.size 42 2 (fun j => if j = 0 then .string nm else .slice va xs.length vc) := fun O => World.rowIs.of_block (box_row w2 (.string nm) (.slice va xs.length vc) 42) (((below_kept0 B4).alloc O).block _ (World.rowIs.lt (box_row w2 (.string nm) (.slice va xs.length vc) 42)) (fun e => e)); have z0 : ∀ O, (w4.alloc O).cell? ⟨w2.heap.size, 0, none⟩ = some (.string nm) := fun O => (R5 O).cell (i := 0) (by omega); have z1 : ∀ O, (w4.alloc O).cell? ⟨w2.heap.size, 1, none⟩ = some (.slice va xs.length vc) := fun O => (R5 O).cell (i := 1) (by omega)) | (go_at_call 23; refine T1.mono ?_; rintro e w2 ⟨v1, rfl, O2, B2⟩; obtain ⟨va, vc, rfl⟩ := row_form' O2; have KB : Kept0 W (w2.alloc (.cells #[.string nm, .slice va xs.length vc] 42)) := (below_kept0 B2).alloc _; have TT2 := HT2.out _ KB; clear T1))
      clear z0 z1
      have K5 : Kept0 W (w4.alloc (.cells #[.string nm, .slice ua ys.length uc] 42)) := (KB.trans (below_kept0 B4)).alloc _
      have R9 := R5 (.cells #[.string nm, .slice ua ys.length uc] 42)
      have R11 := box_row w4 (.string nm) (.slice ua ys.length uc) 42
      have O9 : (w4.alloc (.cells #[.string nm, .slice ua ys.length uc] 42)).ownsRow W.heap.size 3 1 (.slice va xs.length vc) xs.length (argC xs) := ((O2.alloc _).kept (below_kept0 B4).grownBy (Decidable.em _)).alloc _
      have O11 := O4.alloc (.cells #[.string nm, .slice ua ys.length uc] 42)
      clear R5 O2 O4 B2 B4 KB TT2 HT2
      generalize w4.alloc (.cells #[.string nm, .slice ua ys.length uc] 42) = w5 at *
      generalize w4.heap.size = b11 at *
      generalize w2.heap.size = b9 at *
      have hl4 : xs.length ≤ 4 := h4
      go_loopw [13] (fun t13 W' => ∃ k : Nat, k ≤ xs.length ∧ t13 = .int .i64 (k : Int) ∧ Kept0 w5 W' ∧ Hid (∀ m a b, m < k → xs[m]? = some a → ys[m]? = some b → Cc.Cg l P a b)) (fun t13 _ => xs.length - (intOf t13).toNat)
      case atStart => exact ⟨0, by omega, rfl, Kept.refl _ _, fun m a b hm => by omega⟩
      case round =>
        obtain ⟨k, hk, rfl, K, hcg⟩ := hrel
        have y1 : wr.cell? ⟨b9, 1, none⟩ = some (.slice va xs.length vc) := (World.rowIs.of_block R9 (K.block _ R9.lt (fun e => e))).cell (i := 1) (by omega)
        have y2 : wr.cell? ⟨b11, 1, none⟩ = some (.slice ua ys.length uc) := (World.rowIs.of_block R11 (K.block _ R11.lt (fun e => e))).cell (i := 1) (by omega)
        by_cases hk2 : k < xs.length
        · have dk : decide ((k : Int) < (xs.length : Int)) = true := decide_eq_true (by omega)
          have hk3 : k < ys.length := by have := hlnh.out; omega
          obtain ⟨C, B, ht, hu⟩ := HH.out
          have hxa : xs[k]? = some xs[k] := List.getElem?_eq_getElem hk2
          have hyb : ys[k]? = some ys[k] := List.getElem?_eq_getElem hk3
          have ha := C.un.cz.bd.args i _ ht xs[k] (List.getElem_mem hk2)
          have hb' := C.un.cz.bd.args j _ hu ys[k] (List.getElem_mem hk3)
          obtain ⟨g1, cp1, e1, q1⟩ := arg_cell (xs := xs) (O9.kept K.grownBy (Decidable.em _)) hk2
          obtain ⟨g2, cp2, e2, q2⟩ := arg_cell (xs := ys) (O11.kept K.grownBy (Decidable.em _)) hk3
          injection e1 with r1 r2 r3
          clear r2
          injection e2 with r4 r5 r6
          clear r5
          subst r1 r3 r4 r6
          have SM : ∀ m, Calls Try.prog 47 #[.pointer (some ⟨c.pc, 0, none⟩), .int .i64 (xs[k] : Int), .int .i64 (ys[k] : Int)] (wr.drewN m) fun e w' => e = .returned (.bool (sameB l.length c.z.g (xs[k] : Int) (ys[k] : Int))) ∧ ∃ m', w' = (wr.drewN m).drewN m' := fun m => kSame_in _ bc l c P (C.kept0 ((K5.trans K).drewN m)) _ _
          have hsm := C.un.same ha hb'
          have HX : Hid (_ ∧ _ ∧ _) := ⟨hxa, hyb, hsm⟩
          have HK : Hid (Kept0 w5 wr ∧ Kept0 W wr) := ⟨K, K5.trans K⟩
          clear C B ht hu hxa hyb hsm ha hb' K O9 O11 R9 R11 hb h4 K5
          cases hs : sameB l.length c.z.g (xs[k] : Int) (ys[k] : Int)
          · rw [hs] at SM
            generalize xs[k] = xa at *
            generalize ys[k] = yb at *
            go_wp2_with fail
            go_quiet ((go_at_call 47; exact Calls.quiet_of (SM _)))
            go_wp2_with fail
            go_ret
            exact ⟨false, rfl, (fun e => by cases e), HK.out.2.drewN _⟩
          · rw [hs] at SM
            have hcg2 : Hid (∀ m a b, m < k + 1 → xs[m]? = some a → ys[m]? = some b → Cc.Cg l P a b) := fun m a b hm h1 h2 => by
              obtain ⟨x1, x2, x3⟩ := HX.out
              by_cases e : m = k
              · subst e
                rw [x1] at h1
                rw [x2] at h2
                cases h1
                cases h2
                exact x3.1 hs
              · exact hcg.out m a b (by omega) h1 h2
            clear HX
            generalize xs[k] = xa at *
            generalize ys[k] = yb at *
            go_wp2_with fail
            go_quiet ((go_at_call 47; exact Calls.quiet_of (SM _)))
            go_wp2_with fail
            exact ⟨⟨k + 1, hk2, by simp, HK.out.1.drewN _, hcg2⟩, by simp [intOf]; omega⟩
        · have dk : decide ((k : Int) < (xs.length : Int)) = false := decide_eq_false (by omega)
          obtain rfl : k = xs.length := by omega
          go_wp2_with fail
          go_ret
          obtain ⟨C, B, ht, hu⟩ := HH.out
          exact ⟨true, rfl, fun _ => .cong ht hu rfl hlnh.out (fun m a b h1 h2 => hcg.out m a b (List.getElem?_eq_some_iff.1 h1).1 h1 h2), K5.trans K⟩
    · have dn : ((xs.length : Int) != (ys.length : Int)) = true := by rw [bne_iff_ne]; omega
      clear hln
      go_enter Try.func49, Try.ntmps49
      go_wp2_with (first | (go_at_call 23; refine TT2.mono ?_; rintro e w4 ⟨v2, rfl, O4, B4⟩; obtain ⟨ua, uc, rfl⟩ := row_form' O4; have R5 : ∀ O, (w4.alloc O).rowIs w2.heap.size 42 2 (fun j => if j = 0 then .string nm else .slice va xs.length vc) := fun O => World.rowIs.of_block (box_row w2 (.string nm) (.slice va xs.length vc) 42) (((below_kept0 B4).alloc O).block _ (World.rowIs.lt (box_row w2 (.string nm) (.slice va xs.length vc) 42)) (fun e => e)); have z0 : ∀ O, (w4.alloc O).cell? ⟨w2.heap.size, 0, none⟩ = some (.string nm) := fun O => (R5 O).cell (i := 0) (by omega); have z1 : ∀ O, (w4.alloc O).cell? ⟨w2.heap.size, 1, none⟩ = some (.slice va xs.length vc) := fun O => (R5 O).cell (i := 1) (by omega)) | (go_at_call 23; refine T1.mono ?_; rintro e w2 ⟨v1, rfl, O2, B2⟩; obtain ⟨va, vc, rfl⟩ := row_form' O2; have KB : Kept0 W (w2.alloc (.cells #[.string nm, .slice va xs.length vc] 42)) := (below_kept0 B2).alloc _; have TT2 := HT2.out _ KB; clear T1))
      go_ret
      exact ⟨false, rfl, (fun e => by cases e), (KB.trans (below_kept0 B4)).alloc _⟩
  · have dn : (nm.toList == nu.toList) = false := beq_eq_false_iff_ne.2 (fun e => hnm (toList_name e))
    clear hnm
    go_enter Try.func49, Try.ntmps49
    go_wp2_with (first | (go_at_call 23; refine TT2.mono ?_; rintro e w4 ⟨v2, rfl, O4, B4⟩; obtain ⟨ua, uc, rfl⟩ := row_form' O4; have R5 : ∀ O, (w4.alloc O).rowIs w2.heap.size 42 2 (fun j => if j = 0 then .string nm else .slice va xs.length vc) := fun O => World.rowIs.of_block (box_row w2 (.string nm) (.slice va xs.length vc) 42) (((below_kept0 B4).alloc O).block _ (World.rowIs.lt (box_row w2 (.string nm) (.slice va xs.length vc) 42)) (fun e => e)); have z0 : ∀ O, (w4.alloc O).cell? ⟨w2.heap.size, 0, none⟩ = some (.string nm) := fun O => (R5 O).cell (i := 0) (by omega); have z1 : ∀ O, (w4.alloc O).cell? ⟨w2.heap.size, 1, none⟩ = some (.slice va xs.length vc) := fun O => (R5 O).cell (i := 1) (by omega)) | (go_at_call 23; refine T1.mono ?_; rintro e w2 ⟨v1, rfl, O2, B2⟩; obtain ⟨va, vc, rfl⟩ := row_form' O2; have KB : Kept0 W (w2.alloc (.cells #[.string nm, .slice va xs.length vc] 42)) := (below_kept0 B2).alloc _; have TT2 := HT2.out _ KB; clear T1))
    go_ret
    exact ⟨false, rfl, (fun e => by cases e), (KB.trans (below_kept0 B4)).alloc _⟩

end Go.Proofs.Ytjfekcjhflcnaaa

namespace Go.Proofs.Ytjfekcjhflcnaaa
open Go.RowKit Go.Maps

def pairC (ps : List (Int × Int)) : List Value := ps.flatMap fun p => [.int .i64 p.1, .int .i64 p.2]
theorem pairC_snoc (ps : List (Int × Int)) (p : Int × Int) : pairC (ps ++ [p]) = pairC ps ++ [.int .i64 p.1, .int .i64 p.2] := by simp [pairC]
theorem pairC_get (ps : List (Int × Int)) : ∀ (i : Nat) (p : Int × Int), ps[i]? = some p → (pairC ps)[i * 2]? = some (.int .i64 p.1) ∧ (pairC ps)[i * 2 + 1]? = some (.int .i64 p.2) := by
  induction ps with
  | nil => intro i p h; simp at h
  | cons x xs ih =>
    intro i p h
    have e : pairC (x :: xs) = .int .i64 x.1 :: .int .i64 x.2 :: pairC xs := rfl
    rw [e]
    cases i with
    | zero => simp at h; subst h; exact ⟨rfl, rfl⟩
    | succ i =>
      have h' := ih i p (by simpa using h)
      rw [show (i + 1) * 2 = i * 2 + 1 + 1 by omega]
      simpa using h'

theorem Prw.of_row {w : World} {base : Nat} {v : Value} {ps : List (Int × Int)} (h : w.ownsRow base 86 2 v ps.length (pairC ps)) : ∃ a cap, v = .slice a ps.length cap ∧ Prw w a ps := by
  rcases h.2 with ⟨e1, e2⟩ | ⟨g, cap, cur, e1, _⟩
  · have : ps = [] := List.length_eq_zero_iff.1 e2
    subst this
    exact ⟨none, 0, e1, fun k x hk => by simp at hk⟩
  · subst e1
    refine ⟨_, _, rfl, fun k x hk => ?_⟩
    obtain ⟨g1, g2⟩ := pairC_get ps k x hk
    have hkl := (List.getElem?_eq_some_iff.1 hk).1
    have c1 := h.cellAt (k * 2) (by omega)
    have c2 := h.cellAt (k * 2 + 1) (by omega)
    exact ⟨g, 0, rfl, (h.lt g (by simp [Value.ownBlock])).2, by rw [Nat.zero_add, c1, g1], by rw [Nat.zero_add, c2, g2]⟩

set_option maxHeartbeats 2000000 in
set_option maxRecDepth 100000 in
theorem given_in (w : World) (a : Option Addr) (cp : Nat) (ps : List (Int × Int)) (hP : Prw w a ps) (hr : ps.length * 16 ≤ 140737488355328) :
    Calls Try.prog 50 #[.slice a ps.length cp] w fun e w' => ∃ b c, e = .returned (.slice b ps.length c) ∧ w'.ownsRow w.heap.size 86 2 (.slice b ps.length c) ps.length (pairC ps) ∧ Prw w' b ps ∧ Kept0 w w' := by
  obtain ⟨i0, hi0, hz0, hz1, hz2⟩ := info_parts infoPair
  have hpb : ps.length ≤ 8796093022208 := by omega
  clear hr
  go_enter Try.func50, Try.ntmps50
  go_wp2_with fail
  go_loopw [3, 4] (fun t3 t4 W => ∃ k : Nat, k ≤ ps.length ∧ t4 = .int .i64 (k : Int) ∧ W.ownsRow w.heap.size 86 2 t3 k (pairC (ps.take k)) ∧ Kept0 w W) (fun _ t4 _ => ps.length - (intOf t4).toNat)
  case atStart => exact ⟨0, by omega, rfl, by simpa [pairC] using World.ownsRow_nil _ _ _ _, Kept.refl _ _⟩
  case round =>
    obtain ⟨k, hk, rfl, R, K⟩ := hrel
    obtain ⟨va, vc, hv⟩ := row_form' R
    subst hv
    by_cases hk2 : k < ps.length
    · have dk : decide ((k : Int) < (ps.length : Int)) = true := decide_eq_true (by omega)
      have hx : ps[k]? = some ps[k] := List.getElem?_eq_getElem hk2
      generalize hok : ps[k] = q at hx
      clear hok
      obtain ⟨b, off, rfl, hbl, y1, y2⟩ := hP.kept0 K k q hx
      have hks := K.size
      have FIN : Hid (∀ w1 v' O, w1.ownsRow w.heap.size 86 2 v' (k + 1) (pairC (ps.take k) ++ [.int .i64 q.1, .int .i64 q.2]) → (wr.alloc O).drew.grownBy w1 (Value.slice va k vc).ownBlock → w1.ownsRow w.heap.size 86 2 v' (k + 1) (pairC (ps.take (k + 1))) ∧ Kept0 w w1) := fun w1 v' O h1 h2 => by
        refine ⟨?_, ?_⟩
        · rw [List.take_add_one, hx, Option.toList_some, pairC_snoc]
          exact h1
        · have K1 : Kept (fun j => (Value.slice va k vc).ownBlock = some j) wr w1 := Kept.grown (((Kept.refl _ wr).alloc O).drew) h2 (fun _ e => e)
          exact K.into K1 (fun j hj => .inr (R.lt j hj).1)
      have OWN : ∀ O, (wr.alloc O).drew.ownsRow w.heap.size 86 2 (.slice va k vc) k (pairC (ps.take k)) := fun O => World.ownsRow.alloc R O
      have NEW := cell_two_news wr 0 (.int .i64 q.1) (.int .i64 q.2) 86
      clear hx hP K
      generalize q.1 = qa at *
      generalize q.2 = qb at *
      go_wp2_with fail
      go_region_law (refine step_append_here rfl (.tmp 11) (.tmp 23) 77 rfl w.heap.size 86 i0 _ 2 16 Try.underlying77 hi0 hz0 hz1 hz2 rfl (by decide) _ k (pairC (ps.take k)) (by simp [Act.eval]; rfl) (by exact OWN _) ⟨wr.heap.size, 0, none⟩ 1 1 [.int .i64 qa, .int .i64 qb] (by simp [Act.eval]) rfl (by exact NEW) (by simp [Value.oneCell']) (by unfold maxLen; omega) (by omega) (by simp; omega) ?_; intro v' w1 hown1 hgrow hloc; obtain ⟨b1, cap1, hv1⟩ := ownsRow_succ hown1; subst hv1; replace hown1 : Hid _ := hown1; replace hgrow : Hid _ := hgrow; replace hloc : Hid _ := hloc)
      all_goals
        clear OWN NEW R
        go_wp2_with fail
        obtain ⟨f1, f2⟩ := FIN.out w1 _ _ hown1.out hgrow.out
        exact ⟨⟨k + 1, hk2, by simp, f1, f2⟩, by simp [intOf]; omega⟩
    · have dk : decide ((k : Int) < (ps.length : Int)) = false := decide_eq_false (by omega)
      obtain rfl : k = ps.length := by omega
      rw [List.take_length] at R
      obtain ⟨a2, c2, e2, hP2⟩ := Prw.of_row R
      cases e2
      go_wp2_with fail
      go_ret
      exact ⟨va, vc, rfl, R, hP2, K⟩

end Go.Proofs.Ytjfekcjhflcnaaa

namespace Go.Proofs.Ytjfekcjhflcnaaa
open Go.RowKit Go.Maps

def tB : Tm := ⟨⟨#[98]⟩, []⟩
def tC : Tm := ⟨⟨#[99]⟩, []⟩
def tD : Tm := ⟨⟨#[100]⟩, []⟩
theorem rd_a : pRead ⟨#[97]⟩ [] = (0, 0, 0, [tA]) := by
  have n0 : nmE ⟨#[97]⟩ 0 = 1 := by rw [nmE_at (by decide) (by decide), nmE_end (by decide)]
  have w0 : badNm ⟨#[97]⟩ 0 = false := by simp only [badNm, n0]; decide
  have b0 : bl ⟨#[97]⟩ 0 = 0 := bl_end (by decide)
  have b1 : bl ⟨#[97]⟩ 1 = 1 := bl_end (by decide)
  have p0 : pTerm ⟨#[97]⟩ 3 0 0 [] = .ok 0 1 [tA] := by
    rw [pTerm, w0, n0, b1]
    simp only [Bool.false_eq_true, if_false, show ¬ 12 < 0 from by decide, show stands ⟨#[97]⟩ 1 40 = false from by decide]
    rfl
  rw [pRead, if_neg (by decide), pWhole, b0, show 2 * (⟨#[97]⟩ : ByteArray).size + 1 = 3 from rfl, p0]
  rfl
theorem rd_b : pRead ⟨#[98]⟩ [tA] = (1, 0, 0, [tA, tB]) := by
  have n0 : nmE ⟨#[98]⟩ 0 = 1 := by rw [nmE_at (by decide) (by decide), nmE_end (by decide)]
  have w0 : badNm ⟨#[98]⟩ 0 = false := by simp only [badNm, n0]; decide
  have b0 : bl ⟨#[98]⟩ 0 = 0 := bl_end (by decide)
  have b1 : bl ⟨#[98]⟩ 1 = 1 := bl_end (by decide)
  have p0 : pTerm ⟨#[98]⟩ 3 0 0 [tA] = .ok 1 1 [tA, tB] := by
    rw [pTerm, w0, n0, b1]
    simp only [Bool.false_eq_true, if_false, show ¬ 12 < 0 from by decide, show stands ⟨#[98]⟩ 1 40 = false from by decide]
    rfl
  rw [pRead, if_neg (by decide), pWhole, b0, show 2 * (⟨#[98]⟩ : ByteArray).size + 1 = 3 from rfl, p0]
  rfl
theorem rd_c : pRead ⟨#[99]⟩ [tA, tB] = (2, 0, 0, [tA, tB, tC]) := by
  have n0 : nmE ⟨#[99]⟩ 0 = 1 := by rw [nmE_at (by decide) (by decide), nmE_end (by decide)]
  have w0 : badNm ⟨#[99]⟩ 0 = false := by simp only [badNm, n0]; decide
  have b0 : bl ⟨#[99]⟩ 0 = 0 := bl_end (by decide)
  have b1 : bl ⟨#[99]⟩ 1 = 1 := bl_end (by decide)
  have p0 : pTerm ⟨#[99]⟩ 3 0 0 [tA, tB] = .ok 2 1 [tA, tB, tC] := by
    rw [pTerm, w0, n0, b1]
    simp only [Bool.false_eq_true, if_false, show ¬ 12 < 0 from by decide, show stands ⟨#[99]⟩ 1 40 = false from by decide]
    rfl
  rw [pRead, if_neg (by decide), pWhole, b0, show 2 * (⟨#[99]⟩ : ByteArray).size + 1 = 3 from rfl, p0]
  rfl
theorem rd_d : pRead ⟨#[100]⟩ [tA, tB, tC] = (3, 0, 0, [tA, tB, tC, tD]) := by
  have n0 : nmE ⟨#[100]⟩ 0 = 1 := by rw [nmE_at (by decide) (by decide), nmE_end (by decide)]
  have w0 : badNm ⟨#[100]⟩ 0 = false := by simp only [badNm, n0]; decide
  have b0 : bl ⟨#[100]⟩ 0 = 0 := bl_end (by decide)
  have b1 : bl ⟨#[100]⟩ 1 = 1 := bl_end (by decide)
  have p0 : pTerm ⟨#[100]⟩ 3 0 0 [tA, tB, tC] = .ok 3 1 [tA, tB, tC, tD] := by
    rw [pTerm, w0, n0, b1]
    simp only [Bool.false_eq_true, if_false, show ¬ 12 < 0 from by decide, show stands ⟨#[100]⟩ 1 40 = false from by decide]
    rfl
  rw [pRead, if_neg (by decide), pWhole, b0, show 2 * (⟨#[100]⟩ : ByteArray).size + 1 = 3 from rfl, p0]
  rfl

def l4 : List Tm := [tA, tB, tC, tD]
theorem l4_bd : Cc.Bd l4 ∧ Kp l4 := by
  have hK : Kp l4 := by
    have h1 := Kp.nil.read ⟨#[97]⟩
    rw [rd_a] at h1
    have h2 := h1.read ⟨#[98]⟩
    rw [rd_b] at h2
    have h3 := h2.read ⟨#[99]⟩
    rw [rd_c] at h3
    have h4 := h3.read ⟨#[100]⟩
    rw [rd_d] at h4
    exact h4
  refine ⟨⟨fun n t ht a ha => ?_, hK.good.four, hK.good.one, by decide⟩, hK⟩
  have hn : n < 4 := (List.getElem?_eq_some_iff.1 ht).1
  rcases (by omega : n = 0 ∨ n = 1 ∨ n = 2 ∨ n = 3) with rfl | rfl | rfl | rfl <;> simp [l4, tA, tB, tC, tD] at ht <;> subst ht <;> simp at ha

theorem l4_names : ∀ (i j : Nat) (t u : Tm), l4[i]? = some t → l4[j]? = some u → t.name = u.name → i = j := by
  intro i j t u h1 h2 h3
  have hi : i < 4 := (List.getElem?_eq_some_iff.1 h1).1
  have hj : j < 4 := (List.getElem?_eq_some_iff.1 h2).1
  rcases (by omega : i = 0 ∨ i = 1 ∨ i = 2 ∨ i = 3) with rfl | rfl | rfl | rfl <;> rcases (by omega : j = 0 ∨ j = 1 ∨ j = 2 ∨ j = 3) with rfl | rfl | rfl | rfl <;> simp [l4] at h1 h2 <;> subst h1 h2 <;> first | rfl | exact absurd h3 (by decide)

/-- What all pairs keep, the closure keeps. -/
theorem cg4 (S : Nat → Bool) (P : List (Nat × Nat)) (hP : ∀ p, p ∈ P → S p.1 = S p.2) {i j : Nat} (h : Cc.Cg l4 P i j) : S i = S j := by
  induction h with
  | told hm _ _ => exact hP _ hm
  | refl _ => rfl
  | symm _ ih => exact ih.symm
  | trans _ _ i1 i2 => exact i1.trans i2
  | cong h1 h2 h3 _ _ _ => rw [l4_names _ _ _ _ h1 h2 h3]

def ps3 : List (Int × Int) := [(0, 1), (2, 3), (1, 2)]
theorem ps3_get {n : Nat} {q : Nat × Nat} (h : (ps3[n]?).bind (Wm.okP l4.length) = some q) : (n = 0 ∧ q = (0, 1)) ∨ (n = 1 ∧ q = (2, 3)) ∨ (n = 2 ∧ q = (1, 2)) := by
  match n with
  | 0 => exact .inl ⟨rfl, (Option.some.inj (h.symm.trans (show _ = some (0, 1) from rfl)))⟩
  | 1 => exact .inr (.inl ⟨rfl, (Option.some.inj (h.symm.trans (show _ = some (2, 3) from rfl)))⟩)
  | 2 => exact .inr (.inr ⟨rfl, (Option.some.inj (h.symm.trans (show _ = some (1, 2) from rfl)))⟩)
  | n + 3 => simp [ps3] at h

theorem fol4 {ns : List Nat} (h : cgB l4 (Wm.prs l4.length ps3 ns) 0 2 = true) : 0 ∈ ns ∧ 2 ∈ ns := by
  have hc := (cgB_iff.1 h).2.2
  constructor
  · by_cases e : 0 ∈ ns
    · exact e
    · have := cg4 (fun i => decide (i = 0)) _ (fun p hp => by
        obtain ⟨n, hn, hq⟩ := Wm.mem_prs.1 hp
        rcases ps3_get hq with ⟨rfl, rfl⟩ | ⟨rfl, rfl⟩ | ⟨rfl, rfl⟩
        · exact absurd hn e
        · rfl
        · rfl) hc
      simp at this
  · by_cases e : 2 ∈ ns
    · exact e
    · have := cg4 (fun i => decide (i < 2)) _ (fun p hp => by
        obtain ⟨n, hn, hq⟩ := Wm.mem_prs.1 hp
        rcases ps3_get hq with ⟨rfl, rfl⟩ | ⟨rfl, rfl⟩ | ⟨rfl, rfl⟩
        · rfl
        · rfl
        · exact absurd hn e) hc
      simp at this
theorem fol4_yes {ns : List Nat} (h0 : 0 ∈ ns) (h2 : 2 ∈ ns) : cgB l4 (Wm.prs l4.length ps3 ns) 0 2 = true := by
  refine cgB_iff.2 ⟨by decide, by decide, ?_⟩
  have t1 : Cc.Cg l4 (Wm.prs l4.length ps3 ns) 0 1 := .told (Wm.mem_prs.2 ⟨0, h0, rfl⟩) (by decide) (by decide)
  have t2 : Cc.Cg l4 (Wm.prs l4.length ps3 ns) 1 2 := .told (Wm.mem_prs.2 ⟨2, h2, rfl⟩) (by decide) (by decide)
  exact t1.trans t2

theorem fits4 {ns : List Nat} (h : Fits l4 ps3 0 2 ns) : ns = [0, 2] := by
  obtain ⟨h0, h2⟩ := fol4 h.fol
  have h1 : 1 ∉ ns := fun h1 => by
    have := h.less 1 h1 [0, 2] (fun k hk => by
      simp at hk
      rcases hk with rfl | rfl
      · exact ⟨h0, by decide⟩
      · exact ⟨h2, by decide⟩)
    rw [fol4_yes (by simp) (by simp)] at this
    cases this
  have key : ∀ n, n ∈ ns ↔ n ∈ [0, 2] := fun n => by
    constructor
    · intro hn
      have hl : n < 3 := h.lt n hn
      rcases (by omega : n = 0 ∨ n = 1 ∨ n = 2) with rfl | rfl | rfl
      · simp
      · exact absurd hn h1
      · simp
    · intro hn
      simp at hn
      rcases hn with rfl | rfl
      · exact h0
      · exact h2
  have hp : ns.Perm [0, 2] := (List.perm_ext_iff_of_nodup (h.up.imp (fun e => Nat.ne_of_lt e)) (by decide)).2 key
  exact hp.eq_of_pairwise (le := (· < ·)) (fun a b _ _ e1 e2 => absurd e1 (by omega)) h.up (by decide)

end Go.Proofs.Ytjfekcjhflcnaaa

namespace Go.Proofs.Ytjfekcjhflcnaaa
open Go.RowKit Go.Maps

/-- A bank behind a call of Read, with whatever is below as it was. -/
def Bb (w : World) (p nb fb : Nat) (l : List Tm) (W : World) : Prop := ∃ ev, Bk W w.heap.size p ev nb fb l ∧ Below w.heap.size w W

theorem Bb.read {w W : World} {p nb fb : Nat} {l : List Tm} (h : Bb w p nb fb l W) (hl : l.length ≤ 150) (s : ByteArray) {n a b : Nat} {l' : List Tm} (hs : pRead s l = (n, a, b, l')) :
    Calls Try.prog 16 #[.pointer (some ⟨p, 0, none⟩), .string s] W fun e W' => e = .returned (.tuple #[.int .i64 (n : Int), .int .i64 (a : Int), .int .i64 (b : Int)]) ∧ Bb w p nb fb l' W' := by
  obtain ⟨ev, B, bel⟩ := h
  have R := tRead_in W w.heap.size p ev nb fb l B hl bel.size s
  rw [hs] at R
  refine R.mono ?_
  rintro e W' ⟨he, ev2, B2, K2, _⟩
  exact ⟨he, ev2, B2, bel.trans (Kept.below K2 bel.size (fun k e => B.foot_ge e))⟩

theorem prw3 (w : World) : Prw (w.alloc (.cells #[.int .i64 0, .int .i64 1, .int .i64 2, .int .i64 3, .int .i64 1, .int .i64 2] 86)) (some ⟨w.heap.size, 0, none⟩) ps3 := by
  have c : ∀ k, (w.alloc (.cells #[.int .i64 0, .int .i64 1, .int .i64 2, .int .i64 3, .int .i64 1, .int .i64 2] 86)).cell? ⟨w.heap.size, k, none⟩ = #[Value.int .i64 0, .int .i64 1, .int .i64 2, .int .i64 3, .int .i64 1, .int .i64 2][k]? := fun k => World.cell?_alloc_at _ _ _ k rfl
  intro k x hk
  refine ⟨w.heap.size, 0, rfl, by simp, ?_, ?_⟩
  · rw [c]
    match k, hk with
    | 0, hk => cases hk; rfl
    | 1, hk => cases hk; rfl
    | 2, hk => cases hk; rfl
    | k + 3, hk => simp [ps3] at hk
  · rw [c]
    match k, hk with
    | 0, hk => cases hk; rfl
    | 1, hk => cases hk; rfl
    | 2, hk => cases hk; rfl
    | k + 3, hk => simp [ps3] at hk

set_option maxHeartbeats 2000000 in
set_option maxRecDepth 100000 in
theorem alive4_any (w : World) : Calls Try.prog 56 #[] w fun e w' => e = .returned (.bool true) ∧ Below w.heap.size w w' := by
  have NEW := tNew_any w
  have WY : Hid (∀ W p nb fb, Bb w p nb fb l4 W → Calls Try.prog 52 #[.pointer (some ⟨p, 0, none⟩), .slice (some ⟨W.heap.size, 0, none⟩) 3 3, .int .i64 0, .int .i64 2] (W.alloc (.cells #[.int .i64 0, .int .i64 1, .int .i64 2, .int .i64 3, .int .i64 1, .int .i64 2] 86)) fun e w' => ∃ g cap, e = .returned (.tuple #[.slice (some ⟨g, 0, none⟩) 2 cap, .bool true]) ∧ w'.cell? ⟨g, 0, none⟩ = some (.int .i64 0) ∧ w'.cell? ⟨g, 1, none⟩ = some (.int .i64 2) ∧ Below w.heap.size w w') := fun W p nb fb hB => by
    obtain ⟨ev, B, bel⟩ := hB
    have KA : Kept0 W (W.alloc (.cells #[.int .i64 0, .int .i64 1, .int .i64 2, .int .i64 3, .int .i64 1, .int .i64 2] 86)) := (Kept.refl _ W).alloc _
    refine (why_in _ w.heap.size p ev nb fb l4 (B.kept0 KA) l4_bd.1 (by decide) _ 3 ps3 (prw3 W) (by decide) 0 2).mono ?_
    rintro e w' ⟨K, hh⟩
    have hb : Below w.heap.size w w' := bel.trans (Kept.below (KA.trans K) bel.size (fun _ e => e.elim))
    rcases hh with ⟨h1, _⟩ | ⟨_, ns, v, rfl, R, F, _⟩
    · rw [fol4_yes (by decide) (by decide)] at h1
      cases h1
    · obtain rfl := fits4 F
      rcases R.2 with ⟨_, e2⟩ | ⟨g, cap, cur, e', _⟩
      · cases e2
      · subst e'
        exact ⟨g, cap, rfl, R.cellAt 0 (by decide), R.cellAt 1 (by decide), hb⟩
  go_enter Try.func56, Try.ntmps56
  go_wp2_with (first | (go_at_call 15; refine NEW.mono ?_; rintro e w1 ⟨p, nb, fb, rfl, H1, B1⟩; have P1 : Bb w p nb fb [] w1 := ⟨_, H1, B1⟩; have Q1 := P1.read (by decide) _ rd_a; clear NEW H1 B1) | (go_at_call 16; refine Q4.mono ?_; rintro e w5 ⟨rfl, P5⟩; have Y5 := WY.out w5 p nb fb P5; clear Q4) | (go_at_call 16; refine Q3.mono ?_; rintro e w4 ⟨rfl, P4⟩; have Q4 := P4.read (by decide) _ rd_d; clear Q3) | (go_at_call 16; refine Q2.mono ?_; rintro e w3 ⟨rfl, P3⟩; have Q3 := P3.read (by decide) _ rd_c; clear Q2) | (go_at_call 16; refine Q1.mono ?_; rintro e w2 ⟨rfl, P2⟩; have Q2 := P2.read (by decide) _ rd_b; clear Q1) | (go_at_call 52; refine Y5.mono ?_; rintro e w6 ⟨g, cap, rfl, c0, c1, B6⟩))
  go_ret
  exact ⟨rfl, B6⟩

end Go.Proofs.Ytjfekcjhflcnaaa

namespace Go.Proofs.Ytjfekcjhflcnaaa
open Go.RowKit Go.Maps

theorem prs_merge {l : List Tm} {ps : List (Int × Int)} {ns : List Nat} {n : Nat} {p : Int × Int} (hp : ps[n]? = some p) : mergeP l (Wm.prs l.length ps ns) p.1 p.2 = Wm.prs l.length ps (ns ++ [n]) := by
  unfold mergeP
  cases hi : inB l.length p.1 && inB l.length p.2
  · rw [Wm.prs_app]
    simp [Wm.prs, hp, Wm.okP, hi]
  · rw [Wm.prs_snoc (q := (p.1.toNat, p.2.toNat)) (by rw [hp]; simp [Wm.okP, hi])]
    rfl

/-- A closure and a row of numbers apart from it. -/
structure Wd (w W : World) (l : List Tm) (d : Ks) (Q : List (Nat × Nat)) (v : Value) (ns : List Nat) : Prop where
  dl : Cl W w.heap.size l d Q
  row : W.ownsRow w.heap.size 3 1 v ns.length (natC ns)
  far : ∀ j, v.ownBlock = some j → ¬ d.All j
  bel : Kept0 w W
theorem Wd.kept0 {w W W' : World} {l : List Tm} {d : Ks} {Q : List (Nat × Nat)} {v : Value} {ns : List Nat} (h : Wd w W l d Q v ns) (K : Kept0 W W') : Wd w W' l d Q v ns :=
  ⟨h.dl.kept0 K, ownsRow_block h.row (fun j hj => K.block j (h.row.lt j hj).2 (fun e => e)), h.far, h.bel.trans K⟩
theorem Wd.tell {w W : World} {l : List Tm} {d : Ks} {ps : List (Int × Int)} {ms : List Nat} {v : Value} {ns : List Nat} (h : Wd w W l d (Wm.prs l.length ps ms) v ns) {n : Nat} {p : Int × Int} (hp : ps[n]? = some p) (hb : (ms.length + 1) * 8 ≤ 140737488355328) :
    Calls Try.prog 39 #[.pointer (some ⟨d.pc, 0, none⟩), .int .i64 p.1, .int .i64 p.2] W fun e W' => (∃ x, e = .returned (.int .i64 x)) ∧ ∃ d2 : Ks, d2.pc = d.pc ∧ Wd w W' l d2 (Wm.prs l.length ps (ms ++ [n])) v ns := by
  have hl := Wm.prs_len l.length ps ms
  refine (kMerge_in W w.heap.size l d _ h.dl p.1 p.2 (by omega)).mono ?_
  rintro e W' ⟨rfl, d2, D2, K, hpc, hA⟩
  rw [prs_merge hp] at D2
  refine ⟨⟨_, rfl⟩, d2, hpc, D2, ownsRow_block h.row (fun j hj => K.block j (h.row.lt j hj).2 (fun e => h.far j hj e.all)), fun j hj hA' => ?_, h.bel.into K (fun i hi => .inr (h.dl.foot_ge hi))⟩
  rcases hA j hA' with e | e
  · exact h.far j hj e
  · have := (h.row.lt j hj).2; omega

/-- Both that Why answers, at one place. -/
theorem WhyIs.told {w w' : World} {l : List Tm} {ps : List (Int × Int)} {x y : Int} {e : Ending} (h : WhyIs w l ps x y e w') : ∃ (ns : List Nat) (va : Option Addr) (vc : Nat), e = .returned (.tuple #[.slice va ns.length vc, .bool (cgB l (Wm.prs l.length ps (List.range ps.length)) x y)]) ∧
    w'.ownsRow w.heap.size 3 1 (.slice va ns.length vc) ns.length (natC ns) ∧ Kept0 w w' ∧ (∀ n, n ∈ ns → n < ps.length) ∧ (∀ i n, ns[i]? = some n → cgB l (Wm.prs l.length ps (ns.take i)) x y = false) ∧ cgB l (Wm.prs l.length ps ns) x y = cgB l (Wm.prs l.length ps (List.range ps.length)) x y ∧ ns.length ≤ ps.length := by
  obtain ⟨K, ⟨hf, he⟩ | ⟨ht, ns, v, he, R, F, hl⟩⟩ := h
  · refine ⟨[], none, 0, by rw [hf]; exact he, World.ownsRow_nil _ _ _ _, K, fun n hn => by simp at hn, fun i n hi => by simp at hi, ?_, by simp⟩
    rw [hf]
    rw [Bool.eq_false_iff] at hf ⊢
    intro e1
    obtain ⟨hx, hy⟩ := cgB_in e1
    refine hf ((cgB_fol hx hy _).2 (Wm.fol_mon l ps _ _ [] _ (fun x hx => by simp at hx) ((cgB_fol hx hy _).1 e1)))
  · obtain ⟨va, vc, rfl⟩ := row_form' R
    refine ⟨ns, va, vc, by rw [ht]; exact he, R, K, F.lt, fun i n hi => ?_, by rw [ht]; exact F.fol, hl⟩
    refine F.less n (List.mem_of_getElem? hi) _ (fun k hk => ⟨List.mem_of_mem_take hk, fun e => ?_⟩)
    subst e
    obtain ⟨j, hj, hjk⟩ := List.mem_take_iff_getElem.1 hk
    have hil := (List.getElem?_eq_some_iff.1 hi)
    have := List.pairwise_iff_getElem.1 F.up j i (by omega) hil.1 (by omega)
    rw [hil.2, hjk] at this
    omega

end Go.Proofs.Ytjfekcjhflcnaaa

namespace Go.Proofs.Ytjfekcjhflcnaaa
open Go.RowKit Go.Maps

set_option maxHeartbeats 4000000 in
set_option maxRecDepth 100000 in
theorem closes_in (w : World) (a1 a2 : Option Addr) (cp1 cp2 : Nat) (ss : List ByteArray) (ps : List (Int × Int)) (hT : Texts w a1 ss) (hm : ss.length ≤ maxLen) (hP : Prw w a2 ps) (hr : ps.length * 16 ≤ 140737488351232) (x y : Int) :
    Calls Try.prog 12 #[.slice a1 ss.length cp1, .slice a2 ps.length cp2, .int .i64 x, .int .i64 y] w fun e w' => e = .returned (.bool true) ∧ Below w.heap.size w w' := by
  have LD := load_in w a1 cp1 ss hT hm
  have hpb : ps.length ≤ 8796093022208 := by omega
  clear hr
  go_enter Try.func12, Try.ntmps12
  go_wp2_with (first | (go_at_call 37; refine LD.mono ?_; rintro e w1 ⟨p, ev, nb, fb, l, q, av, vs, rfl, D⟩; have N1 := kNew_in w1 w.heap.size p ev nb fb l D.b D.bd D.kl.len; obtain ⟨aa, ac, hav⟩ := D.r.ls.form; subst hav) | (go_at_call 38; refine N2.mono ?_; rintro e w3 ⟨d, rfl, D0, K3⟩) | (go_at_call 38; refine N1.mono ?_; rintro e w2 ⟨c, rfl, C0, K2⟩; have N2 := kNew_in w2 w.heap.size p ev nb fb l (D.b.kept0 K2) D.bd D.kl.len; clear N1))
  have CD0 : Cd w1 w3 l c d [] [] := ⟨C0.kept0 K3, D0.base K2.size, fun k hk hk2 => by have h1 := C0.all_lt hk; have h2 := D0.all_ge hk2; omega, (Kept.below (K2.trans K3) (Nat.le_refl _) (fun _ e => e.elim))⟩
  have HD : Hid (Duo w w1 p ev nb fb l q (.slice aa l.length ac) vs) := D
  have HP : Hid (∀ W, Kept0 w1 W → Prw W a2 ps) := fun W K => hP.kept0 ((below_kept0 D.bel).trans K)
  clear LD N2 C0 D0 K2 K3 D hT hm hP
  go_loopw [13] (fun t13 W => ∃ (k : Nat) (c' : Ks), k ≤ ps.length ∧ t13 = .int .i64 (k : Int) ∧ c'.pc = c.pc ∧ Cd w1 W l c' d (Wm.prs l.length ps (List.range k)) []) (fun t13 _ => ps.length - (intOf t13).toNat)
  case atStart => exact ⟨0, c, by omega, rfl, rfl, CD0⟩
  case round =>
    clear CD0
    obtain ⟨k, c', hk, rfl, hpc, CD⟩ := hrel
    by_cases hk2 : k < ps.length
    · have dk : decide ((k : Int) < (ps.length : Int)) = true := decide_eq_true (by omega)
      have hx : ps[k]? = some ps[k] := List.getElem?_eq_getElem hk2
      generalize hok : ps[k] = z at hx
      clear hok
      obtain ⟨b, off, rfl, hb, y1, y2⟩ := HP.out wr (below_kept0 CD.bel) k z hx
      have MG : ∀ m, Calls Try.prog 39 #[.pointer (some ⟨c.pc, 0, none⟩), .int .i64 z.1, .int .i64 z.2] (wr.drewN m) fun e W' => e = .returned (.int .i64 (mergeE l z.1 z.2)) ∧ ∃ c2 : Ks, c2.pc = c.pc ∧ Cd w1 W' l c2 d (Wm.prs l.length ps (List.range (k + 1))) [] := fun m => by
        have hpl := Wm.prs_len l.length ps (List.range k)
        rw [List.length_range] at hpl
        rw [← hpc, List.range_succ, ← prs_merge hx]
        exact ((CD.kept0 ((Kept.refl _ wr).drewN m)).merge z.1 z.2 (by omega)).mono fun _ _ ⟨h1, c2, h2, h3, _⟩ => ⟨h1, c2, h2, h3⟩
      clear CD hx hpc HD
      generalize mergeE l z.1 z.2 = me at *
      generalize z.1 = za at *
      generalize z.2 = zb at *
      go_wp2_with fail
      go_region_with (go_at_call 39; refine (MG 1).mono ?_; rintro e w5 ⟨rfl, c2, hc2, CD2⟩)
      all_goals
        go_wp2_with fail
        exact ⟨⟨k + 1, c2, hk2, by simp, hc2, CD2⟩, by simp [intOf]; omega⟩
    · have dk : decide ((k : Int) < (ps.length : Int)) = false := decide_eq_false (by omega)
      obtain rfl : k = ps.length := by omega
      have KR : Kept0 w1 wr := below_kept0 CD.bel
      have GV : Hid (∀ W, Kept0 wr W → Calls Try.prog 50 #[.slice a2 ps.length cp2] W fun e w' => ∃ b c, e = .returned (.slice b ps.length c) ∧ Prw w' b ps ∧ Kept0 W w') := fun W K =>
        (given_in W a2 cp2 ps (HP.out W (KR.trans K)) (by omega)).mono fun _ _ ⟨b, c, h1, _, h2, h3⟩ => ⟨b, c, h1, h2, h3⟩
      have WY : Hid (∀ W b c, Kept0 wr W → Prw W b ps → Calls Try.prog 52 #[.pointer (some ⟨p, 0, none⟩), .slice b ps.length c, .int .i64 x, .int .i64 y] W fun e w' => ∃ (ns : List Nat) (va : Option Addr) (vc : Nat), e = .returned (.tuple #[.slice va ns.length vc, .bool (cgB l (Wm.prs l.length ps (List.range ps.length)) x y)]) ∧
          w'.ownsRow W.heap.size 3 1 (.slice va ns.length vc) ns.length (natC ns) ∧ Kept0 W w' ∧ (∀ n, n ∈ ns → n < ps.length) ∧ (∀ i n, ns[i]? = some n → cgB l (Wm.prs l.length ps (ns.take i)) x y = false) ∧ cgB l (Wm.prs l.length ps ns) x y = cgB l (Wm.prs l.length ps (List.range ps.length)) x y ∧ ns.length ≤ ps.length) := fun W b c K hPb =>
        (why_in W w.heap.size p ev nb fb l (HD.out.b.kept0 (KR.trans K)) HD.out.bd HD.out.kl.len b c ps hPb (by omega) x y).mono fun _ _ h => h.told
      have FL : Hid (∀ W b c, Kept0 wr W → Prw W b ps → Calls Try.prog 51 #[.pointer (some ⟨p, 0, none⟩), .slice b ps.length c, .int .i64 x, .int .i64 y] W fun e w' => e = .returned (.bool (cgB l (Wm.prs l.length ps (List.range ps.length)) x y)) ∧ Kept0 W w') := fun W b c K hPb =>
        follows_in W w.heap.size p ev nb fb l (HD.out.b.kept0 (KR.trans K)) HD.out.bd HD.out.kl.len b c ps hPb (by omega) x y
      have SC : Hid (∀ W, Kept0 wr W → Calls Try.prog 47 #[.pointer (some ⟨c.pc, 0, none⟩), .int .i64 x, .int .i64 y] W fun e w' => e = .returned (.bool (cgB l (Wm.prs l.length ps (List.range ps.length)) x y)) ∧ Kept0 W w') := fun W K => by
        rw [← hpc]
        exact qSame_k W w1.heap.size l c' _ (CD.cl.kept0 K) x y
      have DL : Hid (Cl wr w1.heap.size l d (Wm.prs l.length ps []) ∧ Kept0 w1 wr) := ⟨CD.dl, KR⟩
      clear CD hpc KR
      have GV1 := GV.out wr (Kept.refl _ _)
      obtain ⟨B, hB⟩ : ∃ B, B = cgB l (Wm.prs l.length ps (List.range ps.length)) x y := ⟨_, rfl⟩
      rw [← hB] at WY FL SC
      clear hB
      go_wp2_with (first | (go_at_call 50; refine GV2.mono ?_; rintro e w8 ⟨b8, c8, rfl, P8, K8⟩; have KK8 := KK7.trans K8; have FL8 := FL.out w8 b8 c8 KK8 P8; clear GV2) | (go_at_call 50; refine GV1.mono ?_; rintro e w5 ⟨b5, c5, rfl, P5, K5⟩; have WY5 := WY.out w5 b5 c5 K5 P5; clear GV1) | (go_at_call 52; refine WY5.mono ?_; rintro e w6 ⟨ns, va, vc, rfl, R6, K6, N6, F6, G6, L6⟩; have KK6 := K5.trans K6; have SC6 := SC.out w6 KK6; replace R6 : Hid _ := R6; replace N6 : Hid _ := N6; replace F6 : Hid _ := F6; replace G6 : Hid _ := G6) | (go_at_call 47; refine SC6.mono ?_; rintro e w7 ⟨rfl, K7⟩; have KK7 := KK6.trans K7; have GV2 := GV.out w7 KK7; clear SC6) | (go_at_call 51; refine FL8.mono ?_; rintro e w9 ⟨rfl, K9⟩))
      have W0 : Wd w1 w9 l d (Wm.prs l.length ps (ns.take 0)) (.slice va ns.length vc) ns := by
        have R6' : w6.ownsRow w5.heap.size 3 1 (.slice va ns.length vc) ns.length (natC ns) := R6.out
        have KA := KK8.trans K9
        have K69 := (K7.trans K8).trans K9
        refine ⟨DL.out.1.kept0 KA, ownsRow_block (row_baseK R6' (DL.out.2.trans K5).size) (fun j hj => K69.block j (R6'.lt j hj).2 (fun e => e)), fun j hj hA => ?_, DL.out.2.trans KA⟩
        have h1 := (R6'.lt j hj).1
        have h2 := DL.out.1.all_lt hA
        have h3 := K5.size
        omega
      clear K5 K6 K7 K8 K9 KK6 KK7 KK8 P5 P8 WY5 FL8 GV WY FL SC DL R6
      go_loopw [16] (fun t16 W => ∃ (i : Nat) (d' : Ks), i ≤ ns.length ∧ t16 = .int .i64 (i : Int) ∧ d'.pc = d.pc ∧ Wd w1 W l d' (Wm.prs l.length ps (ns.take i)) (.slice va ns.length vc) ns) (fun t16 _ => ns.length - (intOf t16).toNat)
      case atStart => exact ⟨0, d, by omega, rfl, rfl, W0⟩
      case round =>
        clear W0
        obtain ⟨i, d', hi, rfl, hpd, WD⟩ := hrel
        have SD : Calls Try.prog 47 #[.pointer (some ⟨d.pc, 0, none⟩), .int .i64 x, .int .i64 y] wr fun e w' => e = .returned (.bool (cgB l (Wm.prs l.length ps (ns.take i)) x y)) ∧ Kept0 wr w' := by
          rw [← hpd]
          exact qSame_k wr w1.heap.size l d' _ WD.dl x y
        by_cases hi2 : i < ns.length
        · have di : decide ((i : Int) < (ns.length : Int)) = true := decide_eq_true (by omega)
          have hn : ns[i]? = some ns[i] := List.getElem?_eq_getElem hi2
          generalize hni : ns[i] = n at hn
          clear hni
          rw [F6.out i n hn] at SD
          have hnl : n < ps.length := N6.out n (List.mem_of_getElem? hn)
          have hz : ps[n]? = some ps[n] := List.getElem?_eq_getElem hnl
          generalize hzz : ps[n] = z at hz
          clear hzz
          obtain ⟨g, rfl⟩ : ∃ g, va = some ⟨g, 0, none⟩ := by
            rcases WD.row.2 with ⟨_, e2⟩ | ⟨g, c9, cur, e', _⟩
            · omega
            · simp only [Value.slice.injEq] at e'
              exact ⟨g, e'.1⟩
          have CI : Hid (∀ W, Kept0 wr W → W.cell? ⟨g, i, none⟩ = some (.int .i64 (n : Int))) := fun W K => by
            have hcell := (WD.kept0 K).row.cellAt i (by omega)
            rw [natC_get, hn] at hcell
            exact hcell
          obtain ⟨b, off, rfl, hbl, _, _⟩ := HP.out wr WD.bel n z hz
          have PC : Hid (∀ W, Kept0 wr W → W.cell? ⟨b, off + n * 2, none⟩ = some (.int .i64 z.1) ∧ W.cell? ⟨b, off + n * 2 + 1, none⟩ = some (.int .i64 z.2)) := fun W K => by
            obtain ⟨b', off', he, _, y1, y2⟩ := HP.out W (WD.kept0 K).bel n z hz
            cases he
            exact ⟨y1, y2⟩
          have MGX : Hid (∀ W m, Kept0 wr W → Calls Try.prog 39 #[.pointer (some ⟨d.pc, 0, none⟩), .int .i64 z.1, .int .i64 z.2] (W.drewN m) fun e W' => (∃ x, e = .returned (.int .i64 x)) ∧ ∃ d2 : Ks, d2.pc = d.pc ∧ Wd w1 W' l d2 (Wm.prs l.length ps (ns.take (i + 1))) (.slice (some ⟨g, 0, none⟩) ns.length vc) ns) := fun W m K => by
            have hlt : (ns.take i).length ≤ i := by rw [List.length_take]; omega
            rw [← hpd, List.take_add_one, hn, Option.toList_some]
            exact ((WD.kept0 K).kept0 ((Kept.refl _ W).drewN m)).tell hz (by omega)
          have dn1 : decide ((n : Int) < 0) = false := decide_eq_false (by omega)
          have dn2 : decide ((ps.length : Int) ≤ (n : Int)) = false := decide_eq_false (by omega)
          have dn3 : decide (ps.length ≤ n) = false := decide_eq_false (by omega)
          have hil : Hid (i < ns.length) := hi2
          have ci := CI.out wr (Kept.refl _ wr)
          clear WD hn hz hpd
          generalize z.1 = za at *
          generalize z.2 = zb at *
          go_wp2_with (go_at_call 47; refine SD.mono ?_; rintro e w10 ⟨rfl, K10⟩; have ci2 := CI.out w10 K10; obtain ⟨y1, y2⟩ := PC.out w10 K10; have MG := fun m => MGX.out w10 m K10)
          clear SD ci
          go_region_with (go_at_call 39; refine (MG 1).mono ?_; rintro e w11 ⟨⟨x11, rfl⟩, d2, hd2, WD2⟩)
          all_goals
            clear ci2 y1 y2 MG
            go_wp2_with fail
            exact ⟨⟨i + 1, d2, hil.out, by simp, hd2, WD2⟩, by simp [intOf]; omega⟩
        · have di : decide ((i : Int) < (ns.length : Int)) = false := decide_eq_false (by omega)
          obtain rfl : i = ns.length := by omega
          rw [List.take_length, G6.out] at SD
          have SZ : Hid (∀ W, Kept0 wr W → Calls Try.prog 21 #[.pointer (some ⟨p, 0, none⟩)] W fun e w' => e = .returned (.int .i64 (l.length : Int)) ∧ W = w') := fun W K => size_in W w.heap.size p ev nb fb l (HD.out.b.kept0 (WD.bel.trans K))
          have BEL : Hid (∀ W, Kept0 wr W → Below w.heap.size w W) := fun W K => HD.out.bel.trans (Kept.below (WD.bel.trans K) HD.out.bel.size (fun _ e => e.elim))
          have hl := HD.out.kl.len
          clear WD hpd
          go_wp2_with (first | (go_at_call 47; refine SD.mono ?_; rintro e w10 ⟨rfl, K10⟩; have SZ1 := SZ.out w10 K10; have AL := alive4_any w10) | (go_at_call 21; refine SZ1.mono ?_; rintro e w11 ⟨rfl, rfl⟩) | (go_at_call 56; refine AL.mono ?_; rintro e w12 ⟨rfl, B12⟩))
          go_ret
          have b10 := BEL.out w10 K10
          exact ⟨rfl, b10.trans (B12.mono b10.size)⟩

end Go.Proofs.Ytjfekcjhflcnaaa

namespace Go.Proofs.Ytjfekcjhflcnaaa
open Go.ChangeShapes Go.WideShapes Go.ChangeAt Go.RowKit Go.Deep

theorem cellsPair4 : Try.prog.cellsOf 70 = 2 := by kernel_rfl
theorem cellsInt4 : Try.prog.cellsOf 3 = 1 := by kernel_rfl
theorem bytesPair4 : Try.prog.bytesOf 70 = 16 := by kernel_rfl

set_option maxRecDepth 100000 in
theorem prw_at {H : Type} {enc : TypeId × Value → H} {W : World} {base : Nat} {spare : Nat → Bool} {held : Bool} {a : Option Addr} {len cap : Nat} {d : DataW H} {p : List MemPlace}
    (h : DataW.Trod enc Try.prog W base spare held 65 (.slice a len cap) d p) : (∃ ps : List (Int × Int), ps.length = len ∧ Prw W a ps) ∧ (len = 0 ∨ ∃ elems sp, d = .slice elems sp ∧ len ≤ elems.length + sp.length) := by
  obtain ⟨fuel, hf⟩ := h
  rcases open_slice Try.underlying65 hf with ⟨hcs, _⟩ | ⟨x, l, c, m, n, D, Pl, hcs, _, hl, hm, hmm, hd, hx⟩
  · simp [Value.cells] at hcs
    obtain ⟨rfl, rfl, rfl⟩ := hcs
    exact ⟨⟨[], rfl, fun k x hk => by simp at hk⟩, .inl rfl⟩
  · simp [Value.cells] at hcs
    obtain ⟨rfl, rfl, rfl⟩ := hcs
    have hlm : len ≤ m := by rw [hmm]; split <;> omega
    refine ⟨?_, .inr ⟨_, _, (Prod.mk.inj hd).1, by simp⟩⟩
    have each : ∀ i, i < len → ∃ q : Int × Int, W.cell? (x.add (i * 2)) = some (.int .i64 q.1) ∧ W.cell? (x.add (i * 2 + 1)) = some (.int .i64 q.2) := by
      intro i hi
      obtain ⟨cs, h1, h2⟩ := hx i (by omega)
      rw [cellsPair4] at h1
      obtain ⟨_, hlen, hcell⟩ := World.cells?_some h1
      obtain ⟨y0, y1, k, _, _, g0, g1⟩ := trod_struct2 Try.underlying70 h2
      have e0 := hcell 0 (by omega)
      have e1 := hcell 1 (by omega)
      rw [add_add] at e0 e1
      match cs, hlen with
      | [v0, v1], _ =>
        simp only [cellsInt4] at g0 g1
        obtain ⟨z0, q0, _, _⟩ := DataW.trod_int Try.underlying3 g0
        obtain ⟨z1, q1, _, _⟩ := DataW.trod_int Try.underlying3 g1
        simp at q0 q1
        subst q0 q1
        exact ⟨(z0, z1), by simpa using e0, by simpa using e1⟩
    obtain ⟨q, hq⟩ := choose_lt each
    refine ⟨(List.range len).map q, by simp, fun k y hk => ?_⟩
    have hk' : k < len := by
      have := (List.getElem?_eq_some_iff.1 hk).1
      simpa using this
    obtain ⟨b, off, spot⟩ := x
    have hspot : spot = none := by
      have hsp := World.cell?_spot (hq 0 (by omega)).1
      simpa [Addr.add] using hsp
    subst hspot
    obtain ⟨t0, t1⟩ := hq k hk'
    rw [add_plain] at t0 t1
    have hy : y = q k := by simp [hk'] at hk; exact hk.symm
    subst hy
    exact ⟨b, off, rfl, World.block_lt_of_cell? _ _ t0, t0, by rw [Nat.add_assoc]; exact t1⟩

set_option maxRecDepth 100000 in
theorem WhyCloses_lifted (os : Os) (started : os.Started) (H : Type) (enc : TypeId × Value → H) :
    ReturnsInHanded {} Try.checked os 12 .any (Rows.whyClosesSpec.pre6 enc Try.prog Try.f12 Rows.whyClosesRow.domain false) (Rows.whyClosesSpec.post enc Try.prog Try.f12 false true false false) := by
  refine returnsInHanded_of_change_sized (C := Try.checked) Try.own started (by kernel_rfl) Try.func12
    (ChangeSpec.witness6 (enc := enc) (C := Try.checked) false ⟨#[], #[.slice none 0 0, .slice none 0 0, .int .i64 0, .int .i64 0], []⟩ 8 (by kernel_rfl) (by kernel_rfl) (by kernel_rfl) (by kernel_rfl)) ?_
  intro W base args ds gs before hval0 hW _ hsz0 _
  have hsz : (DataW.weightsEach Try.prog (Try.f12.params.toList ++ Rows.whyClosesSpec.plain.varTypes Try.prog) (ds ++ gs)).all (· ≤ reachBytes) = true := hsz0
  clear hsz0
  have hval : ∀ (j : Nat) t v, Try.f12.params[j]? = some t → args[j]? = some v → Value.okWide Try.prog W .any base t v := hval0
  have hW' := hW
  obtain ⟨p, q, hA0, hV, rfl, hfz, hnd⟩ := hW
  have hA : DataW.TrodAll enc Try.prog W 0 (fun _ => true) true Try.f12.params.toList args.toList ds p := hA0
  rw [Try.params12] at hA hval hsz
  obtain ⟨v0, vs0, d0, ds0, p0, q0, hargs, rfl, rfl, h0, r0⟩ := trodAll_cons hA
  obtain ⟨v1, vs1, d1, ds1, p1, q1, rfl, rfl, rfl, h1, r1⟩ := trodAll_cons r0
  obtain ⟨v2, vs2, d2, ds2, p2, q2, rfl, rfl, rfl, h2, r2⟩ := trodAll_cons r1
  obtain ⟨v3, vs3, d3, ds3, p3, q3, rfl, rfl, rfl, h3, r3⟩ := trodAll_cons r2
  obtain ⟨rfl, rfl, rfl⟩ := trodAll_nil r3
  obtain rfl : args = #[v0, v1, v2, v3] := by cases args; simp_all
  obtain ⟨rfl, rfl⟩ := trodVars_none hV
  obtain ⟨a0, len0, cap0, rfl⟩ := okWide_slice Try.underlying22 (hval 0 22 v0 rfl rfl)
  obtain ⟨a1, len1, cap1, rfl⟩ := okWide_slice Try.underlying65 (hval 1 65 v1 rfl rfl)
  obtain ⟨x2, rfl, rfl, rfl, w2⟩ := open_int Try.underlying3 (hval 2 3 v2 rfl rfl) h2
  obtain ⟨x3, rfl, rfl, rfl, w3⟩ := open_int Try.underlying3 (hval 3 3 v3 rfl rfl) h3
  have lt0 : ∀ x ∈ p0, x.block < W.heap.size := by obtain ⟨m, hm⟩ := h0; exact DataW.trod_lt m _ _ _ hm
  have lt1 : ∀ x ∈ p1, x.block < W.heap.size := by obtain ⟨m, hm⟩ := h1; exact DataW.trod_lt m _ _ _ hm
  obtain ⟨ss, e1, s1, l1⟩ := texts_at h0
  obtain ⟨⟨ps, e2, s2⟩, l2⟩ := prw_at h1
  have hr : ps.length * 16 ≤ 140737488351232 := by
    rcases l2 with l2 | ⟨elems, sp, hd, hle⟩
    · rw [e2, l2]; decide
    · subst hd
      have := sized_slice hsz (j := 1) (t := 65) (e := 70) rfl rfl Try.underlying65
      rw [bytesPair4] at this
      simp only [reachBytes] at this
      omega
  subst e1 e2
  clear hA0 hval0
  refine (closes_in W a0 a1 cap0 cap1 ss ps s1 l1 s2 hr x2 x3).mono fun e W' ⟨he, bel⟩ => ?_
  subst he
  exact ⟨_, rfl, _, _, _, [], _, [], hW', trodAll_mk1 (shut_bool Try.underlying4 _), (trodAll_cons_mk (Below.trod Try.laidOut (by kernel_rfl) (of_decide_eq_true (by kernel_rfl)) h0 bel lt0) (trodAll_cons_mk (Below.trod Try.laidOut (by kernel_rfl) (of_decide_eq_true (by kernel_rfl)) h1 bel lt1) (trodAll_cons_mk (shut_int Try.underlying3 w2) (trodAll_cons_mk (shut_int Try.underlying3 w3) trodAll_mk0)))), rfl, bel.frame _, fun h => by cases h⟩

theorem WhyCloses_holds : Rows.WhyClosesSaid :=
  OpenClaim.holds_of_wide 12 Try.f12 rfl rfl rfl rfl rfl rfl rfl ⟨rfl, rfl, rfl, rfl, rfl⟩ rfl rfl rfl rfl rfl (by kernel_rfl) Try.func12 (by kernel_rfl)
    (of_decide_eq_true (by kernel_rfl)) (by unfold Func.isWrapper; first | (rw [if_pos (by decide +kernel)]; kernel_rfl) | (rw [if_neg (by decide +kernel)]; exact ⟨rfl, rfl⟩))
    (fun os started H enc _ => WhyCloses_lifted os started H enc)
#print axioms WhyCloses_holds

end Go.Proofs.Ytjfekcjhflcnaaa
