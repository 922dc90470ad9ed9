/- law03: Load, ints; what the constant text says. law03: alive; two closures of one bank. CloseOrder's walk. law03: within, args. -/
import Derived.Test.YtjfekcjhflcnaaaClR
import Derived.Test.YtjfekcjhflcnaaaBackD
import Derived.Deep.RegionWith
namespace Go.Proofs.Ytjfekcjhflcnaaa
open Go.RowKit Go.Maps

theorem Duo.bd {w W : World} {p : Nat} {ev : Value} {nb fb : Nat} {l : List Tm} {q : Nat} {av : Value} {vs : List Value} (h : Duo w W p ev nb fb l q av vs) : Cc.Bd l :=
  ⟨fun n t ht a ha => by have h1 := h.nq.ahd n t ht a ha; have h2 := (List.getElem?_eq_some_iff.1 ht).1; omega, h.kl.good.four, h.kl.good.one, h.b.nodup⟩

theorem Duo.kept0 {w W W' : World} {p : Nat} {ev : Value} {nb fb : Nat} {l : List Tm} {q : Nat} {av : Value} {vs : List Value} (h : Duo w W p ev nb fb l q av vs) (K : Kept0 W W') : Duo w W' p ev nb fb l q av vs :=
  ⟨h.b.kept0 K, h.r.kept K (fun _ _ _ _ _ _ _ e => e), h.kl, h.nq, h.bel.trans (Kept.below K h.bel.size (fun _ e => e.elim)), h.rq⟩

set_option maxHeartbeats 2000000 in
set_option maxRecDepth 100000 in
theorem load_in (w : World) (a : Option Addr) (cp : Nat) (ss : List ByteArray) (hT : Texts w a ss) (hm : ss.length ≤ maxLen) :
    Calls Try.prog 37 #[.slice a ss.length cp] w fun e w' => ∃ p ev nb fb l q av vs, e = .returned (.tuple #[.pointer (some ⟨p, 0, none⟩), av]) ∧ Duo w w' p ev nb fb l q av vs := by
  unfold maxLen at hm
  have NEW1 := tNew_any w
  go_enter Try.func37, Try.ntmps37
  go_wp2_with (first | (go_at_call 15; refine NEW1.mono ?_; rintro e w1 ⟨p, nb, fb, rfl, H1, B1⟩; have T0 := Duo.start w w1 p nb fb H1 B1))
  clear NEW1 H1 B1
  generalize w1.alloc (.cells #[.slice none 0 0] 28) = w3 at T0 ⊢
  generalize w1.heap.size = q at T0 ⊢
  go_loopw [6] (fun t6 W => ∃ k : Nat, k ≤ ss.length ∧ t6 = .int .i64 (k : Int) ∧ ∃ ev l av vs, Duo w W p ev nb fb l q av vs) (fun t6 _ => ss.length - (intOf t6).toNat)
  case atStart => exact ⟨0, by omega, rfl, _, _, _, _, T0⟩
  case round =>
    clear T0
    obtain ⟨k, hk, rfl, ev, l, av, vs, T⟩ := hrel
    by_cases hk2 : k < ss.length
    · have dk : decide ((k : Int) < (ss.length : Int)) = true := decide_eq_true (by omega)
      rcases hT with e | ⟨b, off, rfl, hb, hc⟩
      · rw [e] at hk2; simp at hk2
      · have hs : ss[k]? = some ss[k] := List.getElem?_eq_getElem hk2
        have ck := hc k _ hs
        generalize ss[k] = s at ck hs
        have c1 := (T.bel.cell (p := ⟨b, off + k, none⟩) hb).trans ck
        have RB := T.read s
        go_wp2_with (first | (go_at_call 16; refine RB.mono ?_; rintro e w5 ⟨rfl, ev5, RR, bel5⟩; have c5 := (bel5.cell (p := ⟨b, off + k, none⟩) hb).trans ck) | (go_at_call 17; refine RR.mono ?_; rintro e w6 ⟨rfl, av6, vs6, T6⟩))
        exact ⟨⟨k + 1, by omega, by simp, _, _, _, _, T6⟩, by simp [intOf]; omega⟩
    · have dk : decide ((k : Int) < (ss.length : Int)) = false := decide_eq_false (by omega)
      have qc : wr.cell? ⟨q, 0, none⟩ = some av := T.r.row.cell (by omega)
      obtain ⟨aa, ac, hav⟩ := T.r.ls.form
      subst hav
      go_wp2_with fail
      go_quiet (fail)
      go_wp2_with fail
      go_ret2
      exact ⟨p, ev, nb, fb, l, q, _, vs, rfl, T.kept0 ((Kept.refl _ wr).drewN nq)⟩

set_option maxHeartbeats 1000000 in
set_option maxRecDepth 100000 in
theorem ints_in (w : World) (b1 b2 n : Nat) (f : Nat → Nat) (R1 : w.rowIs b1 3 n (fun i => .int .i64 (f i : Int))) (R2 : w.rowIs b2 3 n (fun i => .int .i64 (f i : Int))) (hn : n ≤ 1000) :
    Calls Try.prog 45 #[.slice (some ⟨b1, 0, none⟩) n n, .slice (some ⟨b2, 0, none⟩) n n] w fun e w' => e = .returned (.bool true) ∧ Kept0 w w' := by
  go_enter Try.func45, Try.ntmps45
  go_wp2_with fail
  go_loopw [5] (fun t5 W => ∃ k : Nat, k ≤ n ∧ t5 = .int .i64 (k : Int) ∧ Kept0 w W) (fun t5 _ => n - (intOf t5).toNat)
  case atStart => exact ⟨0, by omega, rfl, Kept.refl _ _⟩
  case round =>
    obtain ⟨k, hk, rfl, K⟩ := hrel
    by_cases hk2 : k < n
    · have dk : decide ((k : Int) < (n : Int)) = true := decide_eq_true (by omega)
      have x1 := (World.rowIs.of_block R1 (K.block _ R1.lt (fun e => e))).cell (i := k) hk2
      have x2 := (World.rowIs.of_block R2 (K.block _ R2.lt (fun e => e))).cell (i := k) hk2
      have HK : Hid _ := K
      clear K R1 R2
      go_wp2_with fail
      go_quiet (fail)
      go_wp2_with fail
      exact ⟨⟨k + 1, by omega, by simp, HK.out.drewN _⟩, by simp [intOf]; omega⟩
    · have dk : decide ((k : Int) < (n : Int)) = false := decide_eq_false (by omega)
      clear R1 R2
      go_wp2_with fail
      go_ret
      exact ⟨rfl, K⟩

/-- f(f(f(f(f(a))))) -/
def tx5 : ByteArray := ⟨#[102, 40, 102, 40, 102, 40, 102, 40, 102, 40, 97, 41, 41, 41, 41, 41]⟩
def tf (k : Nat) : Tm := ⟨⟨#[102]⟩, [k]⟩
theorem t5_n0 : nmE tx5 0 = 1 := by rw [nmE_at (by decide) (by decide), nmE_end (by decide)]
theorem t5_w0 : badNm tx5 0 = false := by simp only [badNm, t5_n0]; decide
theorem t5_n2 : nmE tx5 2 = 3 := by rw [nmE_at (by decide) (by decide), nmE_end (by decide)]
theorem t5_w2 : badNm tx5 2 = false := by simp only [badNm, t5_n2]; decide
theorem t5_n4 : nmE tx5 4 = 5 := by rw [nmE_at (by decide) (by decide), nmE_end (by decide)]
theorem t5_w4 : badNm tx5 4 = false := by simp only [badNm, t5_n4]; decide
theorem t5_n6 : nmE tx5 6 = 7 := by rw [nmE_at (by decide) (by decide), nmE_end (by decide)]
theorem t5_w6 : badNm tx5 6 = false := by simp only [badNm, t5_n6]; decide
theorem t5_n8 : nmE tx5 8 = 9 := by rw [nmE_at (by decide) (by decide), nmE_end (by decide)]
theorem t5_w8 : badNm tx5 8 = false := by simp only [badNm, t5_n8]; decide
theorem t5_n10 : nmE tx5 10 = 11 := by rw [nmE_at (by decide) (by decide), nmE_end (by decide)]
theorem t5_w10 : badNm tx5 10 = false := by simp only [badNm, t5_n10]; decide
theorem t5_b0 : bl tx5 0 = 0 := bl_end (by decide)
theorem t5_b1 : bl tx5 1 = 1 := bl_end (by decide)
theorem t5_b2 : bl tx5 2 = 2 := bl_end (by decide)
theorem t5_b3 : bl tx5 3 = 3 := bl_end (by decide)
theorem t5_b4 : bl tx5 4 = 4 := bl_end (by decide)
theorem t5_b5 : bl tx5 5 = 5 := bl_end (by decide)
theorem t5_b6 : bl tx5 6 = 6 := bl_end (by decide)
theorem t5_b7 : bl tx5 7 = 7 := bl_end (by decide)
theorem t5_b8 : bl tx5 8 = 8 := bl_end (by decide)
theorem t5_b9 : bl tx5 9 = 9 := bl_end (by decide)
theorem t5_b10 : bl tx5 10 = 10 := bl_end (by decide)
theorem t5_b11 : bl tx5 11 = 11 := bl_end (by decide)
theorem t5_b12 : bl tx5 12 = 12 := bl_end (by decide)
theorem t5_b13 : bl tx5 13 = 13 := bl_end (by decide)
theorem t5_b14 : bl tx5 14 = 14 := bl_end (by decide)
theorem t5_b15 : bl tx5 15 = 15 := bl_end (by decide)
theorem t5_b16 : bl tx5 16 = 16 := bl_end (by decide)
theorem t5_o1 : behind tx5 1 40 = 2 := by rw [behind_true (by decide)]; exact t5_b2
theorem t5_o3 : behind tx5 3 40 = 4 := by rw [behind_true (by decide)]; exact t5_b4
theorem t5_o5 : behind tx5 5 40 = 6 := by rw [behind_true (by decide)]; exact t5_b6
theorem t5_o7 : behind tx5 7 40 = 8 := by rw [behind_true (by decide)]; exact t5_b8
theorem t5_o9 : behind tx5 9 40 = 10 := by rw [behind_true (by decide)]; exact t5_b10
theorem t5_c11 : behind tx5 11 41 = 12 := by rw [behind_true (by decide)]; exact t5_b12
theorem t5_c12 : behind tx5 12 41 = 13 := by rw [behind_true (by decide)]; exact t5_b13
theorem t5_c13 : behind tx5 13 41 = 14 := by rw [behind_true (by decide)]; exact t5_b14
theorem t5_c14 : behind tx5 14 41 = 15 := by rw [behind_true (by decide)]; exact t5_b15
theorem t5_c15 : behind tx5 15 41 = 16 := by rw [behind_true (by decide)]; exact t5_b16
theorem t5_10 (f d : Nat) (hd : ¬ 12 < d) : pTerm tx5 (f + 1) d 10 [] = .ok 0 11 [tA] := by
  rw [pTerm, t5_w10, t5_n10, t5_b11]
  simp only [Bool.false_eq_true, if_false, hd, show stands tx5 11 40 = false from by decide]
  rfl
theorem t5_8 (f d : Nat) (hd : ¬ 11 < d) : pTerm tx5 (f + 3) d 8 [] = .ok 1 12 [tA, tf 0] := by
  rw [pTerm, t5_w8, t5_n8, t5_b9, t5_o9]
  simp only [Bool.false_eq_true, if_false, show ¬ 12 < d from by omega, show stands tx5 9 40 = true from by decide, if_true]
  rw [pArgs, if_neg (by decide), if_neg (by decide), t5_10 f (d + 1) (by omega)]
  simp only [show stands tx5 11 41 = true from by decide, if_true, t5_c11]
  rfl
theorem t5_6 (f d : Nat) (hd : ¬ 10 < d) : pTerm tx5 (f + 5) d 6 [] = .ok 2 13 [tA, tf 0, tf 1] := by
  rw [pTerm, t5_w6, t5_n6, t5_b7, t5_o7]
  simp only [Bool.false_eq_true, if_false, show ¬ 12 < d from by omega, show stands tx5 7 40 = true from by decide, if_true]
  rw [pArgs, if_neg (by decide), if_neg (by decide), t5_8 f (d + 1) (by omega)]
  simp only [show stands tx5 12 41 = true from by decide, if_true, t5_c12]
  rfl
theorem t5_4 (f d : Nat) (hd : ¬ 9 < d) : pTerm tx5 (f + 7) d 4 [] = .ok 3 14 [tA, tf 0, tf 1, tf 2] := by
  rw [pTerm, t5_w4, t5_n4, t5_b5, t5_o5]
  simp only [Bool.false_eq_true, if_false, show ¬ 12 < d from by omega, show stands tx5 5 40 = true from by decide, if_true]
  rw [pArgs, if_neg (by decide), if_neg (by decide), t5_6 f (d + 1) (by omega)]
  simp only [show stands tx5 13 41 = true from by decide, if_true, t5_c13]
  rfl
theorem t5_2 (f d : Nat) (hd : ¬ 8 < d) : pTerm tx5 (f + 9) d 2 [] = .ok 4 15 [tA, tf 0, tf 1, tf 2, tf 3] := by
  rw [pTerm, t5_w2, t5_n2, t5_b3, t5_o3]
  simp only [Bool.false_eq_true, if_false, show ¬ 12 < d from by omega, show stands tx5 3 40 = true from by decide, if_true]
  rw [pArgs, if_neg (by decide), if_neg (by decide), t5_4 f (d + 1) (by omega)]
  simp only [show stands tx5 14 41 = true from by decide, if_true, t5_c14]
  rfl
theorem t5_0 (f d : Nat) (hd : ¬ 7 < d) : pTerm tx5 (f + 11) d 0 [] = .ok 5 16 [tA, tf 0, tf 1, tf 2, tf 3, tf 4] := by
  rw [pTerm, t5_w0, t5_n0, t5_b1, t5_o1]
  simp only [Bool.false_eq_true, if_false, show ¬ 12 < d from by omega, show stands tx5 1 40 = true from by decide, if_true]
  rw [pArgs, if_neg (by decide), if_neg (by decide), t5_2 f (d + 1) (by omega)]
  simp only [show stands tx5 15 41 = true from by decide, if_true, t5_c15]
  rfl
def l6 : List Tm := [tA, tf 0, tf 1, tf 2, tf 3, tf 4]
theorem t5_read : pRead tx5 [] = (5, 0, 0, l6) := by
  rw [pRead, if_neg (by decide), pWhole, t5_b0, show 2 * tx5.size + 1 = 22 + 11 from rfl, t5_0 22 0 (by omega)]
  rfl

theorem l6_no : ∀ i j, Cc.Cg l6 [(3, 0)] i j → i % 3 = j % 3 := by
  intro i j h
  induction h with
  | told hm _ _ => simp at hm; omega
  | refl _ => rfl
  | symm _ ih => exact ih.symm
  | trans _ _ i1 i2 => exact i1.trans i2
  | @cong i j t u h1 h2 h3 h4 _ ih =>
    have hi : i < 6 := (List.getElem?_eq_some_iff.1 h1).1
    have hj : j < 6 := (List.getElem?_eq_some_iff.1 h2).1
    have key : ∀ n v, n < 6 → l6[n]? = some v → (n = 0 ∧ v = tA) ∨ ∃ k, n = k + 1 ∧ v = tf k := by
      intro n v hn hv
      rcases (by omega : n = 0 ∨ n = 1 ∨ n = 2 ∨ n = 3 ∨ n = 4 ∨ n = 5) with rfl | rfl | rfl | rfl | rfl | rfl <;> simp [l6] at hv <;> subst hv
      · exact .inl ⟨rfl, rfl⟩
      · exact .inr ⟨0, rfl, rfl⟩
      · exact .inr ⟨1, rfl, rfl⟩
      · exact .inr ⟨2, rfl, rfl⟩
      · exact .inr ⟨3, rfl, rfl⟩
      · exact .inr ⟨4, rfl, rfl⟩
    rcases key i t hi h1 with ⟨rfl, rfl⟩ | ⟨k, rfl, rfl⟩ <;> rcases key j u hj h2 with ⟨rfl, rfl⟩ | ⟨m, rfl, rfl⟩
    · rfl
    · exact absurd h3 (by simp [tA, tf])
    · exact absurd h3 (by simp [tA, tf])
    · have := ih 0 k m rfl rfl
      omega
theorem l6_yes : Cc.Cg l6 [(3, 0), (5, 0)] 1 0 := by
  have c : ∀ {x y : Nat}, x < 5 → y < 5 → Cc.Cg l6 [(3, 0), (5, 0)] x y → Cc.Cg l6 [(3, 0), (5, 0)] (x + 1) (y + 1) := by
    intro x y hx hy h
    have g : ∀ n, n < 5 → l6[n + 1]? = some (tf n) := fun n hn => by
      rcases (by omega : n = 0 ∨ n = 1 ∨ n = 2 ∨ n = 3 ∨ n = 4) with rfl | rfl | rfl | rfl | rfl <;> rfl
    refine .cong (g x hx) (g y hy) rfl rfl (fun k a b ha hb => ?_)
    cases k with
    | zero => simp [tf] at ha hb; subst ha hb; exact h
    | succ k => simp [tf] at ha
  have h30 : Cc.Cg l6 [(3, 0), (5, 0)] 3 0 := .told (by simp) (by decide) (by decide)
  have h50 : Cc.Cg l6 [(3, 0), (5, 0)] 5 0 := .told (by simp) (by decide) (by decide)
  have h41 := c (by omega) (by omega) h30
  have h52 := c (by omega) (by omega) h41
  have h20 := h52.symm.trans h50
  have h31 := c (by omega) (by omega) h20
  exact h31.symm.trans h30

end Go.Proofs.Ytjfekcjhflcnaaa

namespace Go.Proofs.Ytjfekcjhflcnaaa
open Go.RowKit Go.Maps

theorem l6_bd : Cc.Bd l6 ∧ Kp l6 := by
  have hK : Kp l6 := by have := Kp.nil.read tx5; rw [t5_read] at this; exact this
  have hN : Nq l6 := by have := Nq.nil.read tx5; rw [t5_read] at this; exact this
  refine ⟨⟨fun n t ht a ha => ?_, hK.good.four, hK.good.one, by decide⟩, hK⟩
  have h1 := hN.ahd n t ht a ha
  have h2 := (List.getElem?_eq_some_iff.1 ht).1
  omega


set_option maxHeartbeats 2000000 in
set_option maxRecDepth 100000 in
theorem alive3_any (w : World) : Calls Try.prog 48 #[] w fun e w' => e = .returned (.bool true) ∧ Below w.heap.size w w' := by
  have NEW := tNew_any w
  have hm1 : mergeP l6 [] 3 0 = [(3, 0)] := rfl
  have hm2 : mergeP l6 [(3, 0)] 5 0 = [(3, 0), (5, 0)] := rfl
  have M1 : ∀ w3 c, Cl w3 w.heap.size l6 c [] → Calls Try.prog 39 #[.pointer (some ⟨c.pc, 0, none⟩), .int .i64 3, .int .i64 0] w3 fun e w' => (∃ x, e = .returned (.int .i64 x)) ∧ ∃ c' : Ks, c'.pc = c.pc ∧ Cl w' w.heap.size l6 c' [(3, 0)] ∧ Below w.heap.size w3 w' := fun w3 c C =>
    (kMerge_in w3 w.heap.size l6 c [] C 3 0 (by decide)).mono fun e w' ⟨he, c', C', K, hp, _⟩ => ⟨⟨_, he⟩, c', hp, C', Kept.below K C.un.low (fun k hk => C.foot_ge hk)⟩
  have M2 : ∀ w3 c, Cl w3 w.heap.size l6 c [(3, 0)] → Calls Try.prog 39 #[.pointer (some ⟨c.pc, 0, none⟩), .int .i64 5, .int .i64 0] w3 fun e w' => (∃ x, e = .returned (.int .i64 x)) ∧ ∃ c' : Ks, c'.pc = c.pc ∧ Cl w' w.heap.size l6 c' [(3, 0), (5, 0)] ∧ Below w.heap.size w3 w' := fun w3 c C =>
    (kMerge_in w3 w.heap.size l6 c [(3, 0)] C 5 0 (by decide)).mono fun e w' ⟨he, c', C', K, hp, _⟩ => ⟨⟨_, he⟩, c', hp, C', Kept.below K C.un.low (fun k hk => C.foot_ge hk)⟩
  have S1 : ∀ w3 c, Cl w3 w.heap.size l6 c [(3, 0)] → Calls Try.prog 47 #[.pointer (some ⟨c.pc, 0, none⟩), .int .i64 1, .int .i64 0] w3 fun e w' => e = .returned (.bool false) ∧ ∃ m, w' = w3.drewN m := fun w3 c C => by
    have := kSame_in w3 w.heap.size l6 c _ C 1 0
    have hs : sameB l6.length c.z.g 1 0 = false := by
      cases hc : sameB l6.length c.z.g 1 0
      · rfl
      · have := l6_no 1 0 ((C.un.same (i := 1) (j := 0) (by decide) (by decide)).1 hc)
        omega
    rw [hs] at this
    exact this
  have S2 : ∀ w3 c, Cl w3 w.heap.size l6 c [(3, 0), (5, 0)] → Calls Try.prog 47 #[.pointer (some ⟨c.pc, 0, none⟩), .int .i64 1, .int .i64 0] w3 fun e w' => e = .returned (.bool true) ∧ ∃ m, w' = w3.drewN m := fun w3 c C => by
    have := kSame_in w3 w.heap.size l6 c _ C 1 0
    have hs : sameB l6.length c.z.g 1 0 = true := (C.un.same (i := 1) (j := 0) (by decide) (by decide)).2 l6_yes
    rw [hs] at this
    exact this
  have M1h : Hid _ := M1
  have M2h : Hid _ := M2
  have S1h : Hid _ := S1
  have S2h : Hid _ := S2
  clear M1 M2 S1 S2 hm1 hm2
  go_enter Try.func48, Try.ntmps48
  go_wp2_with (first | (go_at_call 15; refine NEW.mono ?_; rintro e w1 ⟨p, nb, fb, rfl, H1, B1⟩; have RD := tRead_in w1 w.heap.size p _ nb fb [] H1 (by simp) B1.size tx5; rw [t5_read] at RD; unfold tx5 at RD) | (go_at_call 16; refine RD.mono ?_; rintro e w2 ⟨rfl, ev2, H2, K2, _⟩; have NC := kNew_in w2 w.heap.size p ev2 nb fb l6 H2 l6_bd.1 (by decide)) | (go_at_call 38; refine NC.mono ?_; rintro e w3 ⟨c, rfl, C0, K3⟩; have hb2 : w.heap.size ≤ w2.heap.size := Nat.le_trans B1.size K2.size; have C1 := C0.base hb2; have MM1 := M1h.out w3 c C1; replace C0 : Hid _ := C0; replace C1 : Hid _ := C1) | (go_at_call 39; refine MM2.mono ?_; rintro e w6 ⟨⟨x6, rfl⟩, c6, hc6, C6, B6⟩; have SS2 := S2h.out w6 c6 C6; rw [hc6] at SS2; clear MM2) | (go_at_call 39; refine MM1.mono ?_; rintro e w4 ⟨⟨x4, rfl⟩, c4, hc4, C4, B4⟩; have SS1 := S1h.out w4 c4 C4; rw [hc4] at SS1; clear MM1) | (go_at_call 47; refine SS2.mono ?_; rintro e w7 ⟨rfl, m7, rfl⟩; have C7 := C6.kept0 ((Kept.refl _ w6).drewN m7); have MK := kMark_in _ _ _ _ _ C7; rw [hc6] at MK; clear SS2) | (go_at_call 47; refine SS1.mono ?_; rintro e w5 ⟨rfl, m5, rfl⟩; have C5 := C4.kept0 ((Kept.refl _ w4).drewN m5); have MM2 := M2h.out _ c4 C5; rw [hc4] at MM2; clear SS1) | (go_at_call 46; refine MK.mono ?_; rintro e w8 ⟨rfl, rfl⟩))
  go_ret
  have b2 : Below w.heap.size w1 w2 := Kept.below K2 B1.size (fun k e => by
    rcases e with e | e | e | e
    · rw [e]; exact H1.bp
    · rw [e]; exact H1.bn
    · rw [e]; exact H1.bf
    · simp [Value.ownBlock] at e)
  have b3 : Below w.heap.size w2 w3 := Kept.below K3 hb2 (fun _ e => e.elim)
  have s3 := b3.size
  have s4 := B4.size
  have s6 := B6.size
  have b5 : Below w.heap.size w4 (w4.drewN m5) := Kept.below (S := fun _ => False) ((Kept.refl _ w4).drewN m5) (by omega) (fun _ e => e.elim)
  have b7 : Below w.heap.size w6 (w6.drewN m7) := Kept.below (S := fun _ => False) ((Kept.refl _ w6).drewN m7) (by have : w4.heap.size ≤ w6.heap.size := s6; omega) (fun _ e => e.elim)
  exact ⟨rfl, (((((B1.trans b2).trans b3).trans B4).trans b5).trans B6).trans b7⟩

/-- Two closures of one list. -/
structure Cd (w W : World) (l : List Tm) (c d : Ks) (P Q : List (Nat × Nat)) : Prop where
  cl : Cl W w.heap.size l c P
  dl : Cl W w.heap.size l d Q
  dis : ∀ k, c.All k → ¬ d.All k
  bel : Below w.heap.size w W

theorem Cd.swap {w W : World} {l : List Tm} {c d : Ks} {P Q : List (Nat × Nat)} (h : Cd w W l c d P Q) : Cd w W l d c Q P := ⟨h.dl, h.cl, fun k hk hk2 => h.dis k hk2 hk, h.bel⟩
theorem Cd.kept0 {w W W' : World} {l : List Tm} {c d : Ks} {P Q : List (Nat × Nat)} (h : Cd w W l c d P Q) (K : Kept0 W W') : Cd w W' l c d P Q := ⟨h.cl.kept0 K, h.dl.kept0 K, h.dis, h.bel.trans (Kept.below K h.bel.size (fun _ e => e.elim))⟩
theorem Cd.merge {w W : World} {l : List Tm} {c d : Ks} {P Q : List (Nat × Nat)} (h : Cd w W l c d P Q) (a b : Int) (hn : (P.length + 1) * 8 ≤ 140737488355328) :
    Calls Try.prog 39 #[.pointer (some ⟨c.pc, 0, none⟩), .int .i64 a, .int .i64 b] W fun e W' => e = .returned (.int .i64 (mergeE l a b)) ∧ ∃ c' : Ks, c'.pc = c.pc ∧ Cd w W' l c' d (mergeP l P a b) Q ∧ Kept (fun k => w.heap.size ≤ k ∧ ¬ d.All k) W W' := by
  refine (kMerge_in W w.heap.size l c P h.cl a b hn).mono ?_
  rintro e W' ⟨he, c', C', K, hp, hA⟩
  refine ⟨he, c', hp, ⟨C', h.dl.keep K (fun k hk hf => h.dis k hf.all hk), fun k hk hk2 => ?_, h.bel.trans (Kept.below K h.bel.size (fun k hk => h.cl.foot_ge hk))⟩, Kept.mono K (fun k _ hk => ⟨h.cl.foot_ge hk, h.dis k hk.all⟩)⟩
  rcases hA k hk with e | e
  · exact h.dis k e hk2
  · have := h.dl.all_lt hk2; omega

end Go.Proofs.Ytjfekcjhflcnaaa

namespace Go.Proofs.Ytjfekcjhflcnaaa
open Go.RowKit Go.Maps

/-- A script in memory: kind, a, b. -/
def Scr (w : World) (a : Option Addr) (ops : List (Int × Int × Int)) : Prop := ∀ (k : Nat) (x : Int × Int × Int), ops[k]? = some x → ∃ b off, a = some ⟨b, off, none⟩ ∧ b < w.heap.size ∧ w.cell? ⟨b, off + k * 3, none⟩ = some (.int .i64 x.1) ∧
  w.cell? ⟨b, off + k * 3 + 1, none⟩ = some (.int .i64 x.2.1) ∧ w.cell? ⟨b, off + k * 3 + 2, none⟩ = some (.int .i64 x.2.2)

/-- All pairs of a script are told. -/
def tellAll (l : List Tm) (P : List (Nat × Nat)) (xs : List (Int × Int)) : List (Nat × Nat) := xs.foldl (fun P x => mergeP l P x.1 x.2) P
theorem tellAll_snoc (l : List Tm) (P : List (Nat × Nat)) (xs : List (Int × Int)) (x : Int × Int) : tellAll l P (xs ++ [x]) = mergeP l (tellAll l P xs) x.1 x.2 := by simp [tellAll]
theorem mergeP_mem {l : List Tm} {P : List (Nat × Nat)} {a b : Int} {p : Nat × Nat} : p ∈ mergeP l P a b ↔ p ∈ P ∨ (inB l.length a = true ∧ inB l.length b = true ∧ p = (a.toNat, b.toNat)) := by
  unfold mergeP
  cases h : inB l.length a && inB l.length b
  · have : ¬ (inB l.length a = true ∧ inB l.length b = true) := by rw [← Bool.and_eq_true, h]; decide
    simp only [Bool.false_eq_true, if_false]
    constructor
    · exact .inl
    · rintro (x | ⟨x1, x2, _⟩)
      · exact x
      · exact absurd ⟨x1, x2⟩ this
  · rw [Bool.and_eq_true] at h
    simp [h.1, h.2]
theorem tellAll_mem {l : List Tm} {xs : List (Int × Int)} : ∀ {P : List (Nat × Nat)} {p : Nat × Nat}, p ∈ tellAll l P xs ↔ p ∈ P ∨ ∃ x ∈ xs, inB l.length x.1 = true ∧ inB l.length x.2 = true ∧ p = (x.1.toNat, x.2.toNat) := by
  induction xs with
  | nil => intro P p; simp [tellAll]
  | cons x xs ih =>
    intro P p
    have h1 : tellAll l P (x :: xs) = tellAll l (mergeP l P x.1 x.2) xs := rfl
    rw [h1, ih, mergeP_mem]
    constructor
    · rintro ((h | h) | ⟨y, hy, h⟩)
      · exact .inl h
      · exact .inr ⟨x, by simp, h⟩
      · exact .inr ⟨y, by simp [hy], h⟩
    · rintro (h | ⟨y, hy, h⟩)
      · exact .inl (.inl h)
      · rcases List.mem_cons.1 hy with rfl | hy
        · exact .inl (.inr h)
        · exact .inr ⟨y, hy, h⟩
theorem mergeP_len (l : List Tm) (P : List (Nat × Nat)) (a b : Int) : (mergeP l P a b).length ≤ P.length + 1 := by
  unfold mergeP
  split <;> simp
def prs (ops : List (Int × Int × Int)) : List (Int × Int) := ops.map fun x => (x.2.1, x.2.2)
/-- Both ways, from the last on. -/
def rvs (ops : List (Int × Int × Int)) : List (Int × Int) := ops.reverse.flatMap fun x => [(x.2.2, x.2.1), (x.2.1, x.2.2)]

theorem order_cg (l : List Tm) (ops : List (Int × Int × Int)) (i j : Nat) : Cc.Cg l (tellAll l [] (prs ops)) i j ↔ Cc.Cg l (tellAll l [] (rvs ops)) i j := by
  constructor
  · refine Cc.Cg.mono (fun a b hm ha hb => ?_)
    refine .told ?_ ha hb
    rw [tellAll_mem] at hm ⊢
    rcases hm with hm | ⟨x, hx, h1, h2, h3⟩
    · cases hm
    · obtain ⟨y, hy, rfl⟩ := List.mem_map.1 hx
      exact .inr ⟨_, List.mem_flatMap.2 ⟨y, by simpa using hy, by simp⟩, h1, h2, h3⟩
  · refine Cc.Cg.mono (fun a b hm ha hb => ?_)
    rw [tellAll_mem] at hm
    rcases hm with hm | ⟨x, hx, h1, h2, h3⟩
    · cases hm
    · obtain ⟨y, hy, hx⟩ := List.mem_flatMap.1 hx
      simp at hy hx
      obtain ⟨ea, eb⟩ := Prod.mk.inj h3
      rcases hx with rfl | rfl
      · refine .symm (.told ?_ hb ha)
        rw [tellAll_mem]
        exact .inr ⟨(y.2.1, y.2.2), List.mem_map.2 ⟨y, hy, rfl⟩, h2, h1, by rw [ea, eb]⟩
      · refine .told ?_ ha hb
        rw [tellAll_mem]
        exact .inr ⟨(y.2.1, y.2.2), List.mem_map.2 ⟨y, hy, rfl⟩, h1, h2, by rw [ea, eb]⟩

theorem rvs_step (ops : List (Int × Int × Int)) {k : Nat} {x : Int × Int × Int} (hx : ops[k]? = some x) : rvs (ops.drop k) = rvs (ops.drop (k + 1)) ++ [(x.2.2, x.2.1), (x.2.1, x.2.2)] := by
  have hk := (List.getElem?_eq_some_iff.1 hx)
  have : ops.drop k = x :: ops.drop (k + 1) := by rw [List.drop_eq_getElem_cons hk.1, hk.2]
  rw [this]
  simp [rvs]
theorem prs_step (ops : List (Int × Int × Int)) {k : Nat} {x : Int × Int × Int} (hx : ops[k]? = some x) : prs (ops.take (k + 1)) = prs (ops.take k) ++ [(x.2.1, x.2.2)] := by
  unfold prs
  rw [List.take_add_one, hx]
  simp

set_option maxHeartbeats 4000000 in
set_option maxRecDepth 100000 in
theorem order_in (w : World) (a1 a2 : Option Addr) (cp1 cp2 : Nat) (ss : List ByteArray) (ops : List (Int × Int × Int)) (hT : Texts w a1 ss) (hm : ss.length ≤ maxLen) (hS : Scr w a2 ops) (hr : ops.length * 24 ≤ 140737488351232) :
    Calls Try.prog 10 #[.slice a1 ss.length cp1, .slice a2 ops.length cp2] w fun e w' => e = .returned (.bool true) ∧ Below w.heap.size w w' := by
  have LD := load_in w a1 cp1 ss hT hm
  go_enter Try.func10, Try.ntmps10
  go_wp2_with (first | (go_at_call 37; refine LD.mono ?_; rintro e w1 ⟨p, ev, nb, fb, l, q, av, vs, rfl, D⟩; have N1 := kNew_in w1 w.heap.size p ev nb fb l D.b D.bd D.kl.len; obtain ⟨aa, ac, hav⟩ := D.r.ls.form; subst hav) | (go_at_call 38; refine N2.mono ?_; rintro e w3 ⟨d, rfl, D0, K3⟩) | (go_at_call 38; refine N1.mono ?_; rintro e w2 ⟨c, rfl, C0, K2⟩; have N2 := kNew_in w2 w.heap.size p ev nb fb l (D.b.kept0 K2) D.bd D.kl.len; clear N1))
  have CD0 : Cd w w3 l c d [] [] := ⟨(C0.kept0 K3).base D.bel.size, D0.base (Nat.le_trans D.bel.size K2.size), fun k hk hk2 => by have h1 := C0.all_lt hk; have h2 := D0.all_ge hk2; omega, (D.bel.trans (Kept.below K2 D.bel.size (fun _ e => e.elim))).trans (Kept.below K3 (Nat.le_trans D.bel.size K2.size) (fun _ e => e.elim))⟩
  have hlen : l.length ≤ 150 := D.kl.len
  have hbd : Hid (Cc.Bd l) := D.bd
  clear LD N2 C0 D0 K2 K3 D hT hm
  go_loopw [9] (fun t9 W => ∃ (k : Nat) (c' : Ks), k ≤ ops.length ∧ t9 = .int .i64 (k : Int) ∧ c'.pc = c.pc ∧ Cd w W l c' d (tellAll l [] (prs (ops.take k))) [] ∧ Hid ((tellAll l [] (prs (ops.take k))).length ≤ k)) (fun t9 _ => ops.length - (intOf t9).toNat)
  case atStart => exact ⟨0, c, by omega, rfl, rfl, CD0, by show (tellAll l [] (prs (ops.take 0))).length ≤ 0; simp [prs, tellAll]⟩
  case round =>
    clear CD0
    obtain ⟨k, c', hk, rfl, hpc, CD, hpl⟩ := hrel
    by_cases hk2 : k < ops.length
    · have dk : decide ((k : Int) < (ops.length : Int)) = true := decide_eq_true (by omega)
      have hx : ops[k]? = some ops[k] := List.getElem?_eq_getElem hk2
      generalize hok : ops[k] = x at hx
      clear hok
      obtain ⟨b, off, rfl, hb, _, x1, x2⟩ := hS k x hx
      have y1 := (CD.bel.cell (p := ⟨b, off + k * 3 + 1, none⟩) hb).trans x1
      have y2 := (CD.bel.cell (p := ⟨b, off + k * 3 + 2, none⟩) hb).trans x2
      have hpl' := hpl.out
      have MG : ∀ m, Calls Try.prog 39 #[.pointer (some ⟨c.pc, 0, none⟩), .int .i64 x.2.1, .int .i64 x.2.2] (wr.drewN m) fun e W' => e = .returned (.int .i64 (mergeE l x.2.1 x.2.2)) ∧ ∃ c2 : Ks, c2.pc = c.pc ∧ Cd w W' l c2 d (tellAll l [] (prs (ops.take (k + 1)))) [] := fun m => by
        rw [← hpc, prs_step ops hx, tellAll_snoc]
        exact ((CD.kept0 ((Kept.refl _ wr).drewN m)).merge x.2.1 x.2.2 (by omega)).mono fun e W' ⟨h1, c2, h2, h3, _⟩ => ⟨h1, c2, h2, h3⟩
      have hpl2 : Hid ((tellAll l [] (prs (ops.take (k + 1)))).length ≤ k + 1) := by
        show _ ≤ _
        rw [prs_step ops hx, tellAll_snoc]
        exact Nat.le_trans (mergeP_len l _ _ _) (by omega)
      obtain ⟨P2, hP2⟩ : ∃ P2, P2 = tellAll l [] (prs (ops.take (k + 1))) := ⟨_, rfl⟩
      rw [← hP2] at MG hpl2
      have HP2 : Hid (P2 = tellAll l [] (prs (ops.take (k + 1)))) := hP2
      clear x1 x2 hS CD hpl hpl' hx hpc hP2
      generalize x.2.1 = xa at *
      generalize x.2.2 = xb at *
      go_wp2_with fail
      go_region_with (go_at_call 39; refine (MG 1).mono ?_; rintro e w5 ⟨rfl, c2, hc2, CD2⟩)
      all_goals
        go_wp2_with fail
        have e := HP2.out
        subst e
        exact ⟨⟨k + 1, c2, hk2, by simp, hc2, CD2, hpl2⟩, by simp [intOf]; omega⟩
    · have dk : decide ((k : Int) < (ops.length : Int)) = false := decide_eq_false (by omega)
      obtain rfl : k = ops.length := by omega
      rw [List.take_length] at CD hpl
      obtain ⟨P1, hP1⟩ : ∃ P1, P1 = tellAll l [] (prs ops) := ⟨_, rfl⟩
      rw [← hP1] at CD hpl
      have HP1 : Hid (P1 = tellAll l [] (prs ops)) := hP1
      clear hP1
      go_wp2_with fail
      go_loopw [10] (fun t10 W => ∃ (k : Nat) (d' : Ks), k ≤ ops.length ∧ t10 = .int .i64 ((k : Int) - 1) ∧ d'.pc = d.pc ∧ Cd w W l c' d' P1 (tellAll l [] (rvs (ops.drop k))) ∧ Hid ((tellAll l [] (rvs (ops.drop k))).length ≤ 2 * (ops.length - k))) (fun t10 _ => (intOf t10 + 1).toNat)
      case atStart => exact ⟨ops.length, d, Nat.le_refl _, rfl, rfl, by rw [List.drop_length]; exact CD, by show _ ≤ _; rw [List.drop_length]; simp [rvs, tellAll]⟩
      case round =>
        clear CD
        obtain ⟨k, d', hk, rfl, hpd, CD, hql⟩ := hrel
        cases k with
        | zero =>
          rw [List.drop_zero] at CD hql
          have HK1 := kClasses_in wr w.heap.size l c' P1 CD.cl
          rw [hpc] at HK1
          have HK2 : ∀ W, Kept0 wr W → Calls Try.prog 44 #[.pointer (some ⟨d.pc, 0, none⟩)] W fun e w' => e = .returned (.slice (some ⟨W.heap.size, 0, none⟩) l.length l.length) ∧ w'.rowIs W.heap.size 3 l.length (fun i => .int .i64 (d'.z.g.lo i : Int)) ∧ Kept0 W w' := fun W KW => by
            have := kClasses_in W w.heap.size l d' _ (CD.dl.kept0 KW)
            rw [hpd] at this
            exact this
          have hlo : ∀ i, i < l.length → d'.z.g.lo i = c'.z.g.lo i := fun i hi => by
            have e1 := HP1.out
            have I1 := CD.cl.un.inv
            rw [e1] at I1
            exact (I1.unique CD.dl.un.inv (fun i j h => (order_cg l ops i j).1 h) (fun i j h => (order_cg l ops i j).2 h) hi).symm
          have hle : Hid (∀ i, i < l.length → c'.z.g.lo i ≤ i) := CD.cl.un.inv.le
          have hcg : Hid (∀ i, i < l.length → Cc.Cg l P1 i (c'.z.g.lo i)) := fun i hi => by
            have h1 := CD.cl.un.inv.le i hi
            exact (CD.cl.un.inv.fin hi (by omega)).1 (CD.cl.un.inv.idem i hi).symm
          have hpn := hpl.out
          clear hS hql hpl
          have H0 : Hid _ := HP1
          clear HP1
          have H1 : Hid (∀ i, i < l.length → d'.z.g.lo i = c'.z.g.lo i) := hlo
          have H2 : Hid (∀ W, Kept0 wr W → Calls Try.prog 44 #[.pointer (some ⟨d.pc, 0, none⟩)] W fun e w' => e = .returned (.slice (some ⟨W.heap.size, 0, none⟩) l.length l.length) ∧ w'.rowIs W.heap.size 3 l.length (fun i => .int .i64 (d'.z.g.lo i : Int)) ∧ Kept0 W w') := HK2
          clear hlo HK2
          have MRG : Hid (∀ W, Kept0 wr W → Calls Try.prog 39 #[.pointer (some ⟨c.pc, 0, none⟩), .int .i64 0, .int .i64 ((l.length : Int) - 1)] W fun e w' => (∃ x, e = .returned (.int .i64 x)) ∧ ∃ (c3 : Ks) (P3 : List (Nat × Nat)), c3.pc = c.pc ∧ Cl w' w.heap.size l c3 P3 ∧ Kept c'.Foot W w' ∧ ∀ i j, Cc.Cg l P1 i j → Cc.Cg l P3 i j) := fun W KW => by
            rw [← hpc]
            refine (kMerge_in W w.heap.size l c' P1 (CD.cl.kept0 KW) 0 ((l.length : Int) - 1) (by omega)).mono ?_
            rintro e w' ⟨he, c3, C3, K3, hp3, _⟩
            exact ⟨⟨_, he⟩, c3, _, hp3, C3, K3, fun i j h => h.mono (fun a b hm ha hb => .told (mergeP_mem.2 (.inl hm)) ha hb)⟩
          have hnf : Hid (∀ k, c'.Foot k → w.heap.size ≤ k ∧ k < wr.heap.size) := fun k hk => ⟨CD.cl.foot_ge hk, CD.cl.all_lt hk.all⟩
          have belr : Hid (Below w.heap.size w wr) := CD.bel
          have CC : Hid (Cl wr w.heap.size l c' P1) := CD.cl
          clear CD
          by_cases h1 : 1 < l.length
          · have d1 : decide ((1 : Int) < (l.length : Int)) = true := decide_eq_true (by omega)
            go_wp2_with (first | (go_at_call 44; refine HK3.mono ?_; rintro e w8 ⟨rfl, R8, K8⟩; have R78 := World.rowIs.of_block R7 (K8.block _ R7.lt (fun e => e)); have IN := ints_in w8 _ _ l.length c'.z.g.lo R78 (R8.congr (fun i hi => by rw [H1.out i hi])) (by omega); clear HK3) | (go_at_call 44; refine HK1.mono ?_; rintro e w7 ⟨rfl, R7, K7⟩; have HK3 := H2.out w7 K7; clear HK1) | (go_at_call 45; refine IN.mono ?_; rintro e w9 ⟨rfl, K9⟩; have K79 : Kept0 wr w9 := (K7.trans K8).trans K9; clear IN) | (go_at_call 39; refine (MRG.out w9 K79).mono ?_; rintro e w10 ⟨⟨x10, rfl⟩, c3, P3, hpc3, C3, K10, hPP0⟩))
            have hPP : Hid (∀ i j, Cc.Cg l P1 i j → Cc.Cg l P3 i j) := hPP0
            have R10 : w10.rowIs wr.heap.size 3 l.length (fun i => .int .i64 (c'.z.g.lo i : Int)) := by
              have R79 := World.rowIs.of_block R78 (K9.block _ R78.lt (fun e => e))
              exact R79.of_block (K10.block _ R79.lt (fun e => Nat.lt_irrefl _ (hnf.out _ e).2))
            have bel10 : Hid (Below w.heap.size w w10) := (belr.out.trans (Kept.below K79 belr.out.size (fun _ e => e.elim))).trans (Kept.below K10 (Nat.le_trans belr.out.size K79.size) (fun k hk => (hnf.out k hk).1))
            clear R7 R8 R78 K7 K8 K9 K79 K10 MRG hPP0 H2 H1 CC hnf belr
            have SMX : Hid (∀ W, Kept0 w10 W → ∀ i, i < l.length → Calls Try.prog 47 #[.pointer (some ⟨c.pc, 0, none⟩), .int .i64 (i : Int), .int .i64 (c'.z.g.lo i : Int)] W fun e w' => e = .returned (.bool true) ∧ ∃ m, w' = W.drewN m) := fun W KW i hi => by
              have := kSame_in W w.heap.size l c3 P3 (C3.kept0 KW) (i : Int) (c'.z.g.lo i : Int)
              have hli : c'.z.g.lo i < l.length := by have := hle.out i hi; omega
              rw [(C3.un.same hi hli).2 (hPP.out i _ (hcg.out i hi)), hpc3] at this
              exact this
            clear C3 hPP hcg
            go_wp2_with fail
            go_loopw [14] (fun t14 W => ∃ i : Nat, i ≤ l.length ∧ t14 = .int .i64 (i : Int) ∧ Kept0 w10 W) (fun t14 _ => l.length - (intOf t14).toNat)
            case atStart => exact ⟨0, by omega, rfl, Kept.refl _ _⟩
            case round =>
              obtain ⟨i, hi, rfl, KW⟩ := hrel
              by_cases hi2 : i < l.length
              · have di : decide ((i : Int) < (l.length : Int)) = true := decide_eq_true (by omega)
                have SM := SMX.out wr KW i hi2
                have ck := (World.rowIs.of_block R10 (KW.block _ R10.lt (fun e => e))).cell (i := i) hi2
                have hli := hle.out i hi2
                generalize c'.z.g.lo i = li at *
                have dl1 : decide ((li : Int) < 0) = false := decide_eq_false (by omega)
                have dl2 : decide ((l.length : Int) ≤ (li : Int)) = false := decide_eq_false (by omega)
                have dl3 : decide (l.length ≤ li) = false := decide_eq_false (by omega)
                have HK : Hid _ := KW
                clear KW R10
                go_wp2_with (go_at_call 47; refine SM.mono ?_; rintro e w12 ⟨rfl, m12, rfl⟩)
                exact ⟨⟨i + 1, by omega, by simp, HK.out.drewN _⟩, by simp [intOf]; omega⟩
              · have di : decide ((i : Int) < (l.length : Int)) = false := decide_eq_false (by omega)
                have AL := alive3_any wr
                clear R10
                go_wp2_with (go_at_call 48; refine AL.mono ?_; rintro e w13 ⟨rfl, B13⟩)
                go_ret
                have b11 := bel10.out.trans (Kept.below KW bel10.out.size (fun _ e => e.elim))
                exact ⟨rfl, b11.trans (B13.mono b11.size)⟩
          · have d1 : decide ((1 : Int) < (l.length : Int)) = false := decide_eq_false (by omega)
            go_wp2_with (first | (go_at_call 44; refine HK3.mono ?_; rintro e w8 ⟨rfl, R8, K8⟩; have R78 := World.rowIs.of_block R7 (K8.block _ R7.lt (fun e => e)); have IN := ints_in w8 _ _ l.length c'.z.g.lo R78 (R8.congr (fun i hi => by rw [H1.out i hi])) (by omega); clear HK3) | (go_at_call 44; refine HK1.mono ?_; rintro e w7 ⟨rfl, R7, K7⟩; have HK3 := H2.out w7 K7; clear HK1) | (go_at_call 45; refine IN.mono ?_; rintro e w9 ⟨rfl, K9⟩; have K79 : Kept0 wr w9 := (K7.trans K8).trans K9; clear IN))
            obtain ⟨c3, hc3⟩ : ∃ c3, c3 = c' := ⟨_, rfl⟩
            obtain ⟨P3, hP3⟩ : ∃ P3, P3 = P1 := ⟨_, rfl⟩
            have hPP : Hid (∀ i j, Cc.Cg l P1 i j → Cc.Cg l P3 i j) := fun i j h => by rw [hP3]; exact h
            have C3 : Cl w9 w.heap.size l c3 P3 := by rw [hc3, hP3]; exact CC.out.kept0 K79
            have hpc3 : c3.pc = c.pc := by rw [hc3]; exact hpc
            have R10 : w9.rowIs wr.heap.size 3 l.length (fun i => .int .i64 (c'.z.g.lo i : Int)) := World.rowIs.of_block R78 (K9.block _ R78.lt (fun e => e))
            have bel10 : Hid (Below w.heap.size w w9) := belr.out.trans (Kept.below K79 belr.out.size (fun _ e => e.elim))
            clear R7 R8 R78 K7 K8 K9 K79 MRG H2 H1 CC hnf belr hc3 hP3
            generalize w9 = w10 at *
            have SMX : Hid (∀ W, Kept0 w10 W → ∀ i, i < l.length → Calls Try.prog 47 #[.pointer (some ⟨c.pc, 0, none⟩), .int .i64 (i : Int), .int .i64 (c'.z.g.lo i : Int)] W fun e w' => e = .returned (.bool true) ∧ ∃ m, w' = W.drewN m) := fun W KW i hi => by
              have := kSame_in W w.heap.size l c3 P3 (C3.kept0 KW) (i : Int) (c'.z.g.lo i : Int)
              have hli : c'.z.g.lo i < l.length := by have := hle.out i hi; omega
              rw [(C3.un.same hi hli).2 (hPP.out i _ (hcg.out i hi)), hpc3] at this
              exact this
            clear C3 hPP hcg
            go_wp2_with fail
            go_loopw [14] (fun t14 W => ∃ i : Nat, i ≤ l.length ∧ t14 = .int .i64 (i : Int) ∧ Kept0 w10 W) (fun t14 _ => l.length - (intOf t14).toNat)
            case atStart => exact ⟨0, by omega, rfl, Kept.refl _ _⟩
            case round =>
              obtain ⟨i, hi, rfl, KW⟩ := hrel
              by_cases hi2 : i < l.length
              · have di : decide ((i : Int) < (l.length : Int)) = true := decide_eq_true (by omega)
                have SM := SMX.out wr KW i hi2
                have ck := (World.rowIs.of_block R10 (KW.block _ R10.lt (fun e => e))).cell (i := i) hi2
                have hli := hle.out i hi2
                generalize c'.z.g.lo i = li at *
                have dl1 : decide ((li : Int) < 0) = false := decide_eq_false (by omega)
                have dl2 : decide ((l.length : Int) ≤ (li : Int)) = false := decide_eq_false (by omega)
                have dl3 : decide (l.length ≤ li) = false := decide_eq_false (by omega)
                have HK : Hid _ := KW
                clear KW R10
                go_wp2_with (go_at_call 47; refine SM.mono ?_; rintro e w12 ⟨rfl, m12, rfl⟩)
                exact ⟨⟨i + 1, by omega, by simp, HK.out.drewN _⟩, by simp [intOf]; omega⟩
              · have di : decide ((i : Int) < (l.length : Int)) = false := decide_eq_false (by omega)
                have AL := alive3_any wr
                clear R10
                go_wp2_with (go_at_call 48; refine AL.mono ?_; rintro e w13 ⟨rfl, B13⟩)
                go_ret
                have b11 := bel10.out.trans (Kept.below KW bel10.out.size (fun _ e => e.elim))
                exact ⟨rfl, b11.trans (B13.mono b11.size)⟩
        | succ k =>
          have dk : decide ((0 : Int) ≤ (k : Int)) = true := decide_eq_true (by omega)
          have e0 : (((k + 1 : Nat) : Int) - 1) = (k : Int) := by omega
          rw [e0]
          have hx : ops[k]? = some ops[k] := List.getElem?_eq_getElem (by omega)
          generalize hok : ops[k] = x at hx
          clear hok
          obtain ⟨b, off, rfl, hb, _, x1, x2⟩ := hS k x hx
          have Y1 : ∀ W, Below w.heap.size w W → W.cell? ⟨b, off + k * 3 + 1, none⟩ = some (.int .i64 x.2.1) := fun W B => (B.cell (p := ⟨b, off + k * 3 + 1, none⟩) hb).trans x1
          have Y2 : ∀ W, Below w.heap.size w W → W.cell? ⟨b, off + k * 3 + 2, none⟩ = some (.int .i64 x.2.2) := fun W B => (B.cell (p := ⟨b, off + k * 3 + 2, none⟩) hb).trans x2
          have y1 := Y1 wr CD.bel
          have y2 := Y2 wr CD.bel
          have hql' := hql.out
          have hq1 := mergeP_len l (tellAll l [] (rvs (ops.drop (k + 1)))) x.2.2 x.2.1
          have MG : ∀ m, Calls Try.prog 39 #[.pointer (some ⟨d.pc, 0, none⟩), .int .i64 x.2.2, .int .i64 x.2.1] (wr.drewN m) fun e W' => e = .returned (.int .i64 (mergeE l x.2.2 x.2.1)) ∧ ∃ d2 : Ks, d2.pc = d.pc ∧ Cd w W' l c' d2 P1 (mergeP l (tellAll l [] (rvs (ops.drop (k + 1)))) x.2.2 x.2.1) := fun m => by
            rw [← hpd]
            exact ((CD.kept0 ((Kept.refl _ wr).drewN m)).swap.merge x.2.2 x.2.1 (by omega)).mono fun e W' ⟨h1, c2, h2, h3, _⟩ => ⟨h1, c2, h2, h3.swap⟩
          have MG2 : ∀ W (d2 : Ks), d2.pc = d.pc → Cd w W l c' d2 P1 (mergeP l (tellAll l [] (rvs (ops.drop (k + 1)))) x.2.2 x.2.1) → ∀ m, Calls Try.prog 39 #[.pointer (some ⟨d.pc, 0, none⟩), .int .i64 x.2.1, .int .i64 x.2.2] (W.drewN m) fun e W' => e = .returned (.int .i64 (mergeE l x.2.1 x.2.2)) ∧ ∃ d3 : Ks, d3.pc = d.pc ∧ Cd w W' l c' d3 P1 (tellAll l [] (rvs (ops.drop k))) := fun W d2 hd2 CD2 m => by
            have e : tellAll l [] (rvs (ops.drop k)) = mergeP l (mergeP l (tellAll l [] (rvs (ops.drop (k + 1)))) x.2.2 x.2.1) x.2.1 x.2.2 := by
              rw [rvs_step ops hx, show [(x.2.2, x.2.1), (x.2.1, x.2.2)] = [(x.2.2, x.2.1)] ++ [(x.2.1, x.2.2)] from rfl, ← List.append_assoc, tellAll_snoc, tellAll_snoc]
            rw [← hd2, e]
            exact ((CD2.kept0 ((Kept.refl _ W).drewN m)).swap.merge x.2.1 x.2.2 (by omega)).mono fun e W' ⟨h1, c2, h2, h3, _⟩ => ⟨h1, c2, h2, h3.swap⟩
          have hql2 : Hid ((tellAll l [] (rvs (ops.drop k))).length ≤ 2 * (ops.length - k)) := by
            show _ ≤ _
            rw [rvs_step ops hx, show [(x.2.2, x.2.1), (x.2.1, x.2.2)] = [(x.2.2, x.2.1)] ++ [(x.2.1, x.2.2)] from rfl, ← List.append_assoc, tellAll_snoc, tellAll_snoc]
            have h2 := mergeP_len l (mergeP l (tellAll l [] (rvs (ops.drop (k + 1)))) x.2.2 x.2.1) x.2.1 x.2.2
            exact Nat.le_trans h2 (by omega)
          have MH : Hid (_ ∧ _ ∧ _) := ⟨MG2, Y1, Y2⟩
          have hkl : k < ops.length := by omega
          clear x1 x2 hS CD hql hql' hx hpd MG2 Y1 Y2 hpl hq1
          generalize x.2.1 = xa at *
          generalize x.2.2 = xb at *
          go_wp2_with fail
          go_region_with (go_at_call 39; refine (MG 1).mono ?_; rintro e w5 ⟨rfl, d2, hd2, CD2⟩)
          all_goals
            have MG5 := MH.out.1 w5 d2 hd2 CD2
            have y1 := MH.out.2.1 w5 CD2.bel
            have y2 := MH.out.2.2 w5 CD2.bel
            clear MG
            go_wp2_with fail
            go_region_with (go_at_call 39; refine (MG5 1).mono ?_; rintro e w6 ⟨rfl, d3, hd3, CD3⟩)
            all_goals
              go_wp2_with fail
              exact ⟨⟨k, d3, by omega, by simp, hd3, CD3, hql2⟩, by simp [intOf]⟩

end Go.Proofs.Ytjfekcjhflcnaaa

namespace Go.Proofs.Ytjfekcjhflcnaaa
open Go.RowKit Go.Maps

set_option maxHeartbeats 400000 in
theorem within_in (w : World) (a : Int) (aa : Option Addr) (n ac : Nat) :
    Calls Try.prog 40 #[.int .i64 a, .slice aa n ac] w fun e w' => e = .returned (.bool (inB n a)) ∧ w = w' := by
  go_enter Try.func40, Try.ntmps40
  go_wp2
  · go_ret
    exact ⟨ret_bool (inB_ge ‹_›), rfl⟩
  · go_ret
    exact ⟨ret_bool (inB_lt ‹_›), rfl⟩

set_option maxHeartbeats 2000000 in
set_option maxRecDepth 100000 in
theorem args3_in (W : World) (bc b0 : Nat) (l : List Tm) (c : Ks) (P : List (Nat × Nat)) (C : Cl W bc l c P) (p : Nat) (ev : Value) (nb fb : Nat) (B : Bk W b0 p ev nb fb l) (i j : Nat) (t u : Tm) (ht : l[i]? = some t) (hu : l[j]? = some u) :
    Calls Try.prog 49 #[.pointer (some ⟨c.pc, 0, none⟩), .pointer (some ⟨p, 0, none⟩), .int .i64 (i : Int), .int .i64 (j : Int)] W fun e w' => ∃ bb, e = .returned (.bool bb) ∧ (bb = true → Cc.Cg l P i j) ∧ Kept0 W w' := by
  have T1 := term_some W b0 p ev nb fb l B i t ht
  have T2 : ∀ W', Kept0 W W' → Calls Try.prog 23 #[.pointer (some ⟨p, 0, none⟩), .int .i64 (j : Int)] W' (TermAns W' u) := fun W' K => term_some W' b0 p ev nb fb l (B.kept0 K) j u hu
  have hb := C.un.cz.bd
  have h4 := hb.four t (List.mem_of_getElem? ht)
  have HT2 : Hid _ := T2
  have HH : Hid (_ ∧ _ ∧ _ ∧ _) := ⟨C, B, ht, hu⟩
  clear T2 C B ht hu
  obtain ⟨nm, xs⟩ := t
  obtain ⟨nu, ys⟩ := u
  simp only at h4
  by_cases hnm : nm = nu
  · subst hnm
    by_cases hln : xs.length = ys.length
    · have dn : ((xs.length : Int) != (ys.length : Int)) = false := by rw [hln]; simp
      have hlnh : Hid (xs.length = ys.length) := hln
      clear hln
      go_enter Try.func49, Try.ntmps49
      go_wp2_with (first | (go_at_call 23; refine TT2.mono ?_; rintro e w4 ⟨v2, rfl, O4, B4⟩; obtain ⟨ua, uc, rfl⟩ := row_form' O4; have R5 : ∀ O, (w4.alloc O).rowIs w2.heap.size 42 2 (fun j => if j = 0 then .string nm else .slice va xs.length vc) := fun O => World.rowIs.of_block (box_row w2 (.string nm) (.slice va xs.length vc) 42) (((below_kept0 B4).alloc O).block _ (World.rowIs.lt (box_row w2 (.string nm) (.slice va xs.length vc) 42)) (fun e => e)); have z0 : ∀ O, (w4.alloc O).cell? ⟨w2.heap.size, 0, none⟩ = some (.string nm) := fun O => (R5 O).cell (i := 0) (by omega); have z1 : ∀ O, (w4.alloc O).cell? ⟨w2.heap.size, 1, none⟩ = some (.slice va xs.length vc) := fun O => (R5 O).cell (i := 1) (by omega)) | (go_at_call 23; refine T1.mono ?_; rintro e w2 ⟨v1, rfl, O2, B2⟩; obtain ⟨va, vc, rfl⟩ := row_form' O2; have KB : Kept0 W (w2.alloc (.cells #[.string nm, .slice va xs.length vc] 42)) := (below_kept0 B2).alloc _; have TT2 := HT2.out _ KB; clear T1))
      clear z0 z1
      have K5 : Kept0 W (w4.alloc (.cells #[.string nm, .slice ua ys.length uc] 42)) := (KB.trans (below_kept0 B4)).alloc _
      have R9 := R5 (.cells #[.string nm, .slice ua ys.length uc] 42)
      have R11 := box_row w4 (.string nm) (.slice ua ys.length uc) 42
      have O9 : (w4.alloc (.cells #[.string nm, .slice ua ys.length uc] 42)).ownsRow W.heap.size 3 1 (.slice va xs.length vc) xs.length (argC xs) := ((O2.alloc _).kept (below_kept0 B4).grownBy (Decidable.em _)).alloc _
      have O11 := O4.alloc (.cells #[.string nm, .slice ua ys.length uc] 42)
      clear R5 O2 O4 B2 B4 KB TT2 HT2
      generalize w4.alloc (.cells #[.string nm, .slice ua ys.length uc] 42) = w5 at *
      generalize w4.heap.size = b11 at *
      generalize w2.heap.size = b9 at *
      have hl4 : xs.length ≤ 4 := h4
      go_loopw [13] (fun t13 W' => ∃ k : Nat, k ≤ xs.length ∧ t13 = .int .i64 (k : Int) ∧ Kept0 w5 W' ∧ Hid (∀ m a b, m < k → xs[m]? = some a → ys[m]? = some b → Cc.Cg l P a b)) (fun t13 _ => xs.length - (intOf t13).toNat)
      case atStart => exact ⟨0, by omega, rfl, Kept.refl _ _, fun m a b hm => by omega⟩
      case round =>
        obtain ⟨k, hk, rfl, K, hcg⟩ := hrel
        have y1 : wr.cell? ⟨b9, 1, none⟩ = some (.slice va xs.length vc) := (World.rowIs.of_block R9 (K.block _ R9.lt (fun e => e))).cell (i := 1) (by omega)
        have y2 : wr.cell? ⟨b11, 1, none⟩ = some (.slice ua ys.length uc) := (World.rowIs.of_block R11 (K.block _ R11.lt (fun e => e))).cell (i := 1) (by omega)
        by_cases hk2 : k < xs.length
        · have dk : decide ((k : Int) < (xs.length : Int)) = true := decide_eq_true (by omega)
          have hk3 : k < ys.length := by have := hlnh.out; omega
          obtain ⟨C, B, ht, hu⟩ := HH.out
          have hxa : xs[k]? = some xs[k] := List.getElem?_eq_getElem hk2
          have hyb : ys[k]? = some ys[k] := List.getElem?_eq_getElem hk3
          have ha := C.un.cz.bd.args i _ ht xs[k] (List.getElem_mem hk2)
          have hb' := C.un.cz.bd.args j _ hu ys[k] (List.getElem_mem hk3)
          obtain ⟨g1, cp1, e1, q1⟩ := arg_cell (xs := xs) (O9.kept K.grownBy (Decidable.em _)) hk2
          obtain ⟨g2, cp2, e2, q2⟩ := arg_cell (xs := ys) (O11.kept K.grownBy (Decidable.em _)) hk3
          injection e1 with r1 r2 r3
          clear r2
          injection e2 with r4 r5 r6
          clear r5
          subst r1 r3 r4 r6
          have SM : ∀ m, Calls Try.prog 47 #[.pointer (some ⟨c.pc, 0, none⟩), .int .i64 (xs[k] : Int), .int .i64 (ys[k] : Int)] (wr.drewN m) fun e w' => e = .returned (.bool (sameB l.length c.z.g (xs[k] : Int) (ys[k] : Int))) ∧ ∃ m', w' = (wr.drewN m).drewN m' := fun m => kSame_in _ bc l c P (C.kept0 ((K5.trans K).drewN m)) _ _
          have hsm := C.un.same ha hb'
          have HX : Hid (_ ∧ _ ∧ _) := ⟨hxa, hyb, hsm⟩
          have HK : Hid (Kept0 w5 wr ∧ Kept0 W wr) := ⟨K, K5.trans K⟩
          clear C B ht hu hxa hyb hsm ha hb' K O9 O11 R9 R11 hb h4 K5
          cases hs : sameB l.length c.z.g (xs[k] : Int) (ys[k] : Int)
          · rw [hs] at SM
            generalize xs[k] = xa at *
            generalize ys[k] = yb at *
            go_wp2_with fail
            go_quiet ((go_at_call 47; exact Calls.quiet_of (SM _)))
            go_wp2_with fail
            go_ret
            exact ⟨false, rfl, (fun e => by cases e), HK.out.2.drewN _⟩
          · rw [hs] at SM
            have hcg2 : Hid (∀ m a b, m < k + 1 → xs[m]? = some a → ys[m]? = some b → Cc.Cg l P a b) := fun m a b hm h1 h2 => by
              obtain ⟨x1, x2, x3⟩ := HX.out
              by_cases e : m = k
              · subst e
                rw [x1] at h1
                rw [x2] at h2
                cases h1
                cases h2
                exact x3.1 hs
              · exact hcg.out m a b (by omega) h1 h2
            clear HX
            generalize xs[k] = xa at *
            generalize ys[k] = yb at *
            go_wp2_with fail
            go_quiet ((go_at_call 47; exact Calls.quiet_of (SM _)))
            go_wp2_with fail
            exact ⟨⟨k + 1, hk2, by simp, HK.out.1.drewN _, hcg2⟩, by simp [intOf]; omega⟩
        · have dk : decide ((k : Int) < (xs.length : Int)) = false := decide_eq_false (by omega)
          obtain rfl : k = xs.length := by omega
          go_wp2_with fail
          go_ret
          obtain ⟨C, B, ht, hu⟩ := HH.out
          exact ⟨true, rfl, fun _ => .cong ht hu rfl hlnh.out (fun m a b h1 h2 => hcg.out m a b (List.getElem?_eq_some_iff.1 h1).1 h1 h2), K5.trans K⟩
    · have dn : ((xs.length : Int) != (ys.length : Int)) = true := by rw [bne_iff_ne]; omega
      clear hln
      go_enter Try.func49, Try.ntmps49
      go_wp2_with (first | (go_at_call 23; refine TT2.mono ?_; rintro e w4 ⟨v2, rfl, O4, B4⟩; obtain ⟨ua, uc, rfl⟩ := row_form' O4; have R5 : ∀ O, (w4.alloc O).rowIs w2.heap.size 42 2 (fun j => if j = 0 then .string nm else .slice va xs.length vc) := fun O => World.rowIs.of_block (box_row w2 (.string nm) (.slice va xs.length vc) 42) (((below_kept0 B4).alloc O).block _ (World.rowIs.lt (box_row w2 (.string nm) (.slice va xs.length vc) 42)) (fun e => e)); have z0 : ∀ O, (w4.alloc O).cell? ⟨w2.heap.size, 0, none⟩ = some (.string nm) := fun O => (R5 O).cell (i := 0) (by omega); have z1 : ∀ O, (w4.alloc O).cell? ⟨w2.heap.size, 1, none⟩ = some (.slice va xs.length vc) := fun O => (R5 O).cell (i := 1) (by omega)) | (go_at_call 23; refine T1.mono ?_; rintro e w2 ⟨v1, rfl, O2, B2⟩; obtain ⟨va, vc, rfl⟩ := row_form' O2; have KB : Kept0 W (w2.alloc (.cells #[.string nm, .slice va xs.length vc] 42)) := (below_kept0 B2).alloc _; have TT2 := HT2.out _ KB; clear T1))
      go_ret
      exact ⟨false, rfl, (fun e => by cases e), (KB.trans (below_kept0 B4)).alloc _⟩
  · have dn : (nm.toList == nu.toList) = false := beq_eq_false_iff_ne.2 (fun e => hnm (toList_name e))
    clear hnm
    go_enter Try.func49, Try.ntmps49
    go_wp2_with (first | (go_at_call 23; refine TT2.mono ?_; rintro e w4 ⟨v2, rfl, O4, B4⟩; obtain ⟨ua, uc, rfl⟩ := row_form' O4; have R5 : ∀ O, (w4.alloc O).rowIs w2.heap.size 42 2 (fun j => if j = 0 then .string nm else .slice va xs.length vc) := fun O => World.rowIs.of_block (box_row w2 (.string nm) (.slice va xs.length vc) 42) (((below_kept0 B4).alloc O).block _ (World.rowIs.lt (box_row w2 (.string nm) (.slice va xs.length vc) 42)) (fun e => e)); have z0 : ∀ O, (w4.alloc O).cell? ⟨w2.heap.size, 0, none⟩ = some (.string nm) := fun O => (R5 O).cell (i := 0) (by omega); have z1 : ∀ O, (w4.alloc O).cell? ⟨w2.heap.size, 1, none⟩ = some (.slice va xs.length vc) := fun O => (R5 O).cell (i := 1) (by omega)) | (go_at_call 23; refine T1.mono ?_; rintro e w2 ⟨v1, rfl, O2, B2⟩; obtain ⟨va, vc, rfl⟩ := row_form' O2; have KB : Kept0 W (w2.alloc (.cells #[.string nm, .slice va xs.length vc] 42)) := (below_kept0 B2).alloc _; have TT2 := HT2.out _ KB; clear T1))
    go_ret
    exact ⟨false, rfl, (fun e => by cases e), (KB.trans (below_kept0 B4)).alloc _⟩

end Go.Proofs.Ytjfekcjhflcnaaa
