/- law03: Load, ints; what the constant text says. Package close: what a closure says, plainly. law03: alive; two closures of one bank. -/
import Derived.Test.YtinphcnknionmaaSCloN
import Derived.Test.YtinphcnknionmaaG35
namespace Go.Proofs.Ytinphcnknionmaa
open Go.RowKit Go.Maps

theorem Duo.bd {w W : World} {p : Nat} {ev : Value} {nb fb : Nat} {l : List Tm} {q : Nat} {av : Value} {vs : List Value} (h : Duo w W p ev nb fb l q av vs) : Cc.Bd l :=
  ⟨fun n t ht a ha => by have h1 := h.nq.ahd n t ht a ha; have h2 := (List.getElem?_eq_some_iff.1 ht).1; omega, h.kl.good.four, h.kl.good.one, h.b.nodup⟩

theorem Duo.kept0 {w W W' : World} {p : Nat} {ev : Value} {nb fb : Nat} {l : List Tm} {q : Nat} {av : Value} {vs : List Value} (h : Duo w W p ev nb fb l q av vs) (K : Kept0 W W') : Duo w W' p ev nb fb l q av vs :=
  ⟨h.b.kept0 K, h.r.kept K (fun _ _ _ _ _ _ _ e => e), h.kl, h.nq, h.bel.trans (Kept.below K h.bel.size (fun _ e => e.elim)), h.rq⟩

set_option maxHeartbeats 2000000 in
set_option maxRecDepth 100000 in
theorem load_in (w : World) (a : Option Addr) (cp : Nat) (ss : List ByteArray) (hT : Texts w a ss) (hm : ss.length ≤ maxLen) :
    Calls Try.prog 37 #[.slice a ss.length cp] w fun e w' => ∃ p ev nb fb l q av vs, e = .returned (.tuple #[.pointer (some ⟨p, 0, none⟩), av]) ∧ Duo w w' p ev nb fb l q av vs := by
  unfold maxLen at hm
  have NEW1 := tNew_any w
  go_enter Try.func37, Try.ntmps37
  go_wp2_with (first | (go_at_call 15; refine NEW1.mono ?_; rintro e w1 ⟨p, nb, fb, rfl, H1, B1⟩; have T0 := Duo.start w w1 p nb fb H1 B1))
  clear NEW1 H1 B1
  generalize w1.alloc (.cells #[.slice none 0 0] 28) = w3 at T0 ⊢
  generalize w1.heap.size = q at T0 ⊢
  go_loopw [6] (fun t6 W => ∃ k : Nat, k ≤ ss.length ∧ t6 = .int .i64 (k : Int) ∧ ∃ ev l av vs, Duo w W p ev nb fb l q av vs) (fun t6 _ => ss.length - (intOf t6).toNat)
  case atStart => exact ⟨0, by omega, rfl, _, _, _, _, T0⟩
  case round =>
    clear T0
    obtain ⟨k, hk, rfl, ev, l, av, vs, T⟩ := hrel
    by_cases hk2 : k < ss.length
    · have dk : decide ((k : Int) < (ss.length : Int)) = true := decide_eq_true (by omega)
      rcases hT with e | ⟨b, off, rfl, hb, hc⟩
      · rw [e] at hk2; simp at hk2
      · have hs : ss[k]? = some ss[k] := List.getElem?_eq_getElem hk2
        have ck := hc k _ hs
        generalize ss[k] = s at ck hs
        have c1 := (T.bel.cell (p := ⟨b, off + k, none⟩) hb).trans ck
        have RB := T.read s
        go_wp2_with (first | (go_at_call 16; refine RB.mono ?_; rintro e w5 ⟨rfl, ev5, RR, bel5⟩; have c5 := (bel5.cell (p := ⟨b, off + k, none⟩) hb).trans ck) | (go_at_call 17; refine RR.mono ?_; rintro e w6 ⟨rfl, av6, vs6, T6⟩))
        exact ⟨⟨k + 1, by omega, by simp, _, _, _, _, T6⟩, by simp [intOf]; omega⟩
    · have dk : decide ((k : Int) < (ss.length : Int)) = false := decide_eq_false (by omega)
      have qc : wr.cell? ⟨q, 0, none⟩ = some av := T.r.row.cell (by omega)
      obtain ⟨aa, ac, hav⟩ := T.r.ls.form
      subst hav
      go_wp2_with fail
      go_quiet (fail)
      go_wp2_with fail
      go_ret2
      exact ⟨p, ev, nb, fb, l, q, _, vs, rfl, T.kept0 ((Kept.refl _ wr).drewN nq)⟩

set_option maxHeartbeats 1000000 in
set_option maxRecDepth 100000 in
theorem ints_in (w : World) (b1 b2 n : Nat) (f : Nat → Nat) (R1 : w.rowIs b1 3 n (fun i => .int .i64 (f i : Int))) (R2 : w.rowIs b2 3 n (fun i => .int .i64 (f i : Int))) (hn : n ≤ 1000) :
    Calls Try.prog 45 #[.slice (some ⟨b1, 0, none⟩) n n, .slice (some ⟨b2, 0, none⟩) n n] w fun e w' => e = .returned (.bool true) ∧ Kept0 w w' := by
  go_enter Try.func45, Try.ntmps45
  go_wp2_with fail
  go_loopw [5] (fun t5 W => ∃ k : Nat, k ≤ n ∧ t5 = .int .i64 (k : Int) ∧ Kept0 w W) (fun t5 _ => n - (intOf t5).toNat)
  case atStart => exact ⟨0, by omega, rfl, Kept.refl _ _⟩
  case round =>
    obtain ⟨k, hk, rfl, K⟩ := hrel
    by_cases hk2 : k < n
    · have dk : decide ((k : Int) < (n : Int)) = true := decide_eq_true (by omega)
      have x1 := (World.rowIs.of_block R1 (K.block _ R1.lt (fun e => e))).cell (i := k) hk2
      have x2 := (World.rowIs.of_block R2 (K.block _ R2.lt (fun e => e))).cell (i := k) hk2
      have HK : Hid _ := K
      clear K R1 R2
      go_wp2_with fail
      go_quiet (fail)
      go_wp2_with fail
      exact ⟨⟨k + 1, by omega, by simp, HK.out.drewN _⟩, by simp [intOf]; omega⟩
    · have dk : decide ((k : Int) < (n : Int)) = false := decide_eq_false (by omega)
      clear R1 R2
      go_wp2_with fail
      go_ret
      exact ⟨rfl, K⟩

/-- f(f(f(f(f(a))))) -/
def tx5 : ByteArray := ⟨#[102, 40, 102, 40, 102, 40, 102, 40, 102, 40, 97, 41, 41, 41, 41, 41]⟩
def tf (k : Nat) : Tm := ⟨⟨#[102]⟩, [k]⟩
theorem t5_n0 : nmE tx5 0 = 1 := by rw [nmE_at (by decide) (by decide), nmE_end (by decide)]
theorem t5_w0 : badNm tx5 0 = false := by simp only [badNm, t5_n0]; decide
theorem t5_n2 : nmE tx5 2 = 3 := by rw [nmE_at (by decide) (by decide), nmE_end (by decide)]
theorem t5_w2 : badNm tx5 2 = false := by simp only [badNm, t5_n2]; decide
theorem t5_n4 : nmE tx5 4 = 5 := by rw [nmE_at (by decide) (by decide), nmE_end (by decide)]
theorem t5_w4 : badNm tx5 4 = false := by simp only [badNm, t5_n4]; decide
theorem t5_n6 : nmE tx5 6 = 7 := by rw [nmE_at (by decide) (by decide), nmE_end (by decide)]
theorem t5_w6 : badNm tx5 6 = false := by simp only [badNm, t5_n6]; decide
theorem t5_n8 : nmE tx5 8 = 9 := by rw [nmE_at (by decide) (by decide), nmE_end (by decide)]
theorem t5_w8 : badNm tx5 8 = false := by simp only [badNm, t5_n8]; decide
theorem t5_n10 : nmE tx5 10 = 11 := by rw [nmE_at (by decide) (by decide), nmE_end (by decide)]
theorem t5_w10 : badNm tx5 10 = false := by simp only [badNm, t5_n10]; decide
theorem t5_b0 : bl tx5 0 = 0 := bl_end (by decide)
theorem t5_b1 : bl tx5 1 = 1 := bl_end (by decide)
theorem t5_b2 : bl tx5 2 = 2 := bl_end (by decide)
theorem t5_b3 : bl tx5 3 = 3 := bl_end (by decide)
theorem t5_b4 : bl tx5 4 = 4 := bl_end (by decide)
theorem t5_b5 : bl tx5 5 = 5 := bl_end (by decide)
theorem t5_b6 : bl tx5 6 = 6 := bl_end (by decide)
theorem t5_b7 : bl tx5 7 = 7 := bl_end (by decide)
theorem t5_b8 : bl tx5 8 = 8 := bl_end (by decide)
theorem t5_b9 : bl tx5 9 = 9 := bl_end (by decide)
theorem t5_b10 : bl tx5 10 = 10 := bl_end (by decide)
theorem t5_b11 : bl tx5 11 = 11 := bl_end (by decide)
theorem t5_b12 : bl tx5 12 = 12 := bl_end (by decide)
theorem t5_b13 : bl tx5 13 = 13 := bl_end (by decide)
theorem t5_b14 : bl tx5 14 = 14 := bl_end (by decide)
theorem t5_b15 : bl tx5 15 = 15 := bl_end (by decide)
theorem t5_b16 : bl tx5 16 = 16 := bl_end (by decide)
theorem t5_o1 : behind tx5 1 40 = 2 := by rw [behind_true (by decide)]; exact t5_b2
theorem t5_o3 : behind tx5 3 40 = 4 := by rw [behind_true (by decide)]; exact t5_b4
theorem t5_o5 : behind tx5 5 40 = 6 := by rw [behind_true (by decide)]; exact t5_b6
theorem t5_o7 : behind tx5 7 40 = 8 := by rw [behind_true (by decide)]; exact t5_b8
theorem t5_o9 : behind tx5 9 40 = 10 := by rw [behind_true (by decide)]; exact t5_b10
theorem t5_c11 : behind tx5 11 41 = 12 := by rw [behind_true (by decide)]; exact t5_b12
theorem t5_c12 : behind tx5 12 41 = 13 := by rw [behind_true (by decide)]; exact t5_b13
theorem t5_c13 : behind tx5 13 41 = 14 := by rw [behind_true (by decide)]; exact t5_b14
theorem t5_c14 : behind tx5 14 41 = 15 := by rw [behind_true (by decide)]; exact t5_b15
theorem t5_c15 : behind tx5 15 41 = 16 := by rw [behind_true (by decide)]; exact t5_b16
theorem t5_10 (f d : Nat) (hd : ¬ 12 < d) : pTerm tx5 (f + 1) d 10 [] = .ok 0 11 [tA] := by
  rw [pTerm, t5_w10, t5_n10, t5_b11]
  simp only [Bool.false_eq_true, if_false, hd, show stands tx5 11 40 = false from by decide]
  rfl
theorem t5_8 (f d : Nat) (hd : ¬ 11 < d) : pTerm tx5 (f + 3) d 8 [] = .ok 1 12 [tA, tf 0] := by
  rw [pTerm, t5_w8, t5_n8, t5_b9, t5_o9]
  simp only [Bool.false_eq_true, if_false, show ¬ 12 < d from by omega, show stands tx5 9 40 = true from by decide, if_true]
  rw [pArgs, if_neg (by decide), if_neg (by decide), t5_10 f (d + 1) (by omega)]
  simp only [show stands tx5 11 41 = true from by decide, if_true, t5_c11]
  rfl
theorem t5_6 (f d : Nat) (hd : ¬ 10 < d) : pTerm tx5 (f + 5) d 6 [] = .ok 2 13 [tA, tf 0, tf 1] := by
  rw [pTerm, t5_w6, t5_n6, t5_b7, t5_o7]
  simp only [Bool.false_eq_true, if_false, show ¬ 12 < d from by omega, show stands tx5 7 40 = true from by decide, if_true]
  rw [pArgs, if_neg (by decide), if_neg (by decide), t5_8 f (d + 1) (by omega)]
  simp only [show stands tx5 12 41 = true from by decide, if_true, t5_c12]
  rfl
theorem t5_4 (f d : Nat) (hd : ¬ 9 < d) : pTerm tx5 (f + 7) d 4 [] = .ok 3 14 [tA, tf 0, tf 1, tf 2] := by
  rw [pTerm, t5_w4, t5_n4, t5_b5, t5_o5]
  simp only [Bool.false_eq_true, if_false, show ¬ 12 < d from by omega, show stands tx5 5 40 = true from by decide, if_true]
  rw [pArgs, if_neg (by decide), if_neg (by decide), t5_6 f (d + 1) (by omega)]
  simp only [show stands tx5 13 41 = true from by decide, if_true, t5_c13]
  rfl
theorem t5_2 (f d : Nat) (hd : ¬ 8 < d) : pTerm tx5 (f + 9) d 2 [] = .ok 4 15 [tA, tf 0, tf 1, tf 2, tf 3] := by
  rw [pTerm, t5_w2, t5_n2, t5_b3, t5_o3]
  simp only [Bool.false_eq_true, if_false, show ¬ 12 < d from by omega, show stands tx5 3 40 = true from by decide, if_true]
  rw [pArgs, if_neg (by decide), if_neg (by decide), t5_4 f (d + 1) (by omega)]
  simp only [show stands tx5 14 41 = true from by decide, if_true, t5_c14]
  rfl
theorem t5_0 (f d : Nat) (hd : ¬ 7 < d) : pTerm tx5 (f + 11) d 0 [] = .ok 5 16 [tA, tf 0, tf 1, tf 2, tf 3, tf 4] := by
  rw [pTerm, t5_w0, t5_n0, t5_b1, t5_o1]
  simp only [Bool.false_eq_true, if_false, show ¬ 12 < d from by omega, show stands tx5 1 40 = true from by decide, if_true]
  rw [pArgs, if_neg (by decide), if_neg (by decide), t5_2 f (d + 1) (by omega)]
  simp only [show stands tx5 15 41 = true from by decide, if_true, t5_c15]
  rfl
def l6 : List Tm := [tA, tf 0, tf 1, tf 2, tf 3, tf 4]
theorem t5_read : pRead tx5 [] = (5, 0, 0, l6) := by
  rw [pRead, if_neg (by decide), pWhole, t5_b0, show 2 * tx5.size + 1 = 22 + 11 from rfl, t5_0 22 0 (by omega)]
  rfl

theorem l6_no : ∀ i j, Cc.Cg l6 [(3, 0)] i j → i % 3 = j % 3 := by
  intro i j h
  induction h with
  | told hm _ _ => simp at hm; omega
  | refl _ => rfl
  | symm _ ih => exact ih.symm
  | trans _ _ i1 i2 => exact i1.trans i2
  | @cong i j t u h1 h2 h3 h4 _ ih =>
    have hi : i < 6 := (List.getElem?_eq_some_iff.1 h1).1
    have hj : j < 6 := (List.getElem?_eq_some_iff.1 h2).1
    have key : ∀ n v, n < 6 → l6[n]? = some v → (n = 0 ∧ v = tA) ∨ ∃ k, n = k + 1 ∧ v = tf k := by
      intro n v hn hv
      rcases (by omega : n = 0 ∨ n = 1 ∨ n = 2 ∨ n = 3 ∨ n = 4 ∨ n = 5) with rfl | rfl | rfl | rfl | rfl | rfl <;> simp [l6] at hv <;> subst hv
      · exact .inl ⟨rfl, rfl⟩
      · exact .inr ⟨0, rfl, rfl⟩
      · exact .inr ⟨1, rfl, rfl⟩
      · exact .inr ⟨2, rfl, rfl⟩
      · exact .inr ⟨3, rfl, rfl⟩
      · exact .inr ⟨4, rfl, rfl⟩
    rcases key i t hi h1 with ⟨rfl, rfl⟩ | ⟨k, rfl, rfl⟩ <;> rcases key j u hj h2 with ⟨rfl, rfl⟩ | ⟨m, rfl, rfl⟩
    · rfl
    · exact absurd h3 (by simp [tA, tf])
    · exact absurd h3 (by simp [tA, tf])
    · have := ih 0 k m rfl rfl
      omega
theorem l6_yes : Cc.Cg l6 [(3, 0), (5, 0)] 1 0 := by
  have c : ∀ {x y : Nat}, x < 5 → y < 5 → Cc.Cg l6 [(3, 0), (5, 0)] x y → Cc.Cg l6 [(3, 0), (5, 0)] (x + 1) (y + 1) := by
    intro x y hx hy h
    have g : ∀ n, n < 5 → l6[n + 1]? = some (tf n) := fun n hn => by
      rcases (by omega : n = 0 ∨ n = 1 ∨ n = 2 ∨ n = 3 ∨ n = 4) with rfl | rfl | rfl | rfl | rfl <;> rfl
    refine .cong (g x hx) (g y hy) rfl rfl (fun k a b ha hb => ?_)
    cases k with
    | zero => simp [tf] at ha hb; subst ha hb; exact h
    | succ k => simp [tf] at ha
  have h30 : Cc.Cg l6 [(3, 0), (5, 0)] 3 0 := .told (by simp) (by decide) (by decide)
  have h50 : Cc.Cg l6 [(3, 0), (5, 0)] 5 0 := .told (by simp) (by decide) (by decide)
  have h41 := c (by omega) (by omega) h30
  have h52 := c (by omega) (by omega) h41
  have h20 := h52.symm.trans h50
  have h31 := c (by omega) (by omega) h20
  exact h31.symm.trans h30

end Go.Proofs.Ytinphcnknionmaa

namespace Go.Proofs.Ytinphcnknionmaa
open Go.RowKit Go.Maps

theorem row_baseK {w : World} {B B' : Nat} {e : TypeId} {k n : Nat} {v : Value} {xs : List Value} (h : w.ownsRow B e k v n xs) (hb : B' ≤ B) : w.ownsRow B' e k v n xs := by
  refine ⟨h.1, ?_⟩
  rcases h.2 with x | ⟨b, cap, cur, e1, e2, e3⟩
  · exact Or.inl x
  · exact Or.inr ⟨b, cap, cur, e1, Nat.le_trans hb e2, e3⟩

theorem Un.same {w : World} {base : Nat} {l : List Tm} {z : Zs} {P : List (Nat × Nat)} (h : Un w base l z P [] []) {i j : Nat} (hi : i < l.length) (hj : j < l.length) : (sameB l.length z.g (i : Int) (j : Int) = true) ↔ Cc.Cg l P i j := by
  rw [← h.inv.fin hi hj]
  simp only [sameB, inB_nat hi, inB_nat hj, Bool.true_and, Int.toNat_natCast, decide_eq_true_eq]
  exact ⟨lo_of_rt, rt_of_lo h.cz.ok hi hj⟩

theorem Un.base {w : World} {base base' : Nat} {l : List Tm} {z : Zs} {P todo : List (Nat × Nat)} {pend : List Nat} (h : Un w base l z P todo pend) (hb : base' ≤ base) : Un w base' l z P todo pend := by
  have C := h.cz
  have L := C.sets.lies
  exact ⟨⟨C.cls, ⟨⟨L.sets, L.nodes, row_baseK L.joins hb, L.ne, L.jp, L.jn, Nat.le_trans hb L.bp, Nat.le_trans hb L.bn, L.small⟩, C.sets.hist, Nat.le_trans hb C.sets.low⟩, C.terms, C.uses, C.known, row_baseK C.back hb, C.sat, fun x hx => ⟨Nat.le_trans hb (C.far x hx).1, (C.far x hx).2⟩, C.argsAt, C.usesAt, C.bd, C.oks, C.len, Nat.le_trans hb C.bp, Nat.le_trans hb C.bt, Nat.le_trans hb C.bu, Nat.le_trans hb C.bm⟩, h.inv, h.ms, h.bs, h.td, Nat.le_trans hb h.low⟩
theorem Cl.base {w : World} {base base' : Nat} {l : List Tm} {c : Ks} {P : List (Nat × Nat)} (h : Cl w base l c P) (hb : base' ≤ base) : Cl w base' l c P :=
  ⟨h.clo, row_baseK h.told hb, h.un.base hb, h.farP, h.farT, Nat.le_trans hb h.bp, h.num⟩

theorem Cl.foot_ge {w : World} {base : Nat} {l : List Tm} {c : Ks} {P : List (Nat × Nat)} (h : Cl w base l c P) {k : Nat} (hk : c.Foot k) : base ≤ k := h.all_ge hk.all

end Go.Proofs.Ytinphcnknionmaa

namespace Go.Proofs.Ytinphcnknionmaa
open Go.RowKit Go.Maps

theorem l6_bd : Cc.Bd l6 ∧ Kp l6 := by
  have hK : Kp l6 := by have := Kp.nil.read tx5; rw [t5_read] at this; exact this
  have hN : Nq l6 := by have := Nq.nil.read tx5; rw [t5_read] at this; exact this
  refine ⟨⟨fun n t ht a ha => ?_, hK.good.four, hK.good.one, by decide⟩, hK⟩
  have h1 := hN.ahd n t ht a ha
  have h2 := (List.getElem?_eq_some_iff.1 ht).1
  omega


set_option maxHeartbeats 2000000 in
set_option maxRecDepth 100000 in
theorem alive3_any (w : World) : Calls Try.prog 48 #[] w fun e w' => e = .returned (.bool true) ∧ Below w.heap.size w w' := by
  have NEW := tNew_any w
  have hm1 : mergeP l6 [] 3 0 = [(3, 0)] := rfl
  have hm2 : mergeP l6 [(3, 0)] 5 0 = [(3, 0), (5, 0)] := rfl
  have M1 : ∀ w3 c, Cl w3 w.heap.size l6 c [] → Calls Try.prog 39 #[.pointer (some ⟨c.pc, 0, none⟩), .int .i64 3, .int .i64 0] w3 fun e w' => (∃ x, e = .returned (.int .i64 x)) ∧ ∃ c' : Ks, c'.pc = c.pc ∧ Cl w' w.heap.size l6 c' [(3, 0)] ∧ Below w.heap.size w3 w' := fun w3 c C =>
    (kMerge_in w3 w.heap.size l6 c [] C 3 0 (by decide)).mono fun e w' ⟨he, c', C', K, hp, _⟩ => ⟨⟨_, he⟩, c', hp, C', Kept.below K C.un.low (fun k hk => C.foot_ge hk)⟩
  have M2 : ∀ w3 c, Cl w3 w.heap.size l6 c [(3, 0)] → Calls Try.prog 39 #[.pointer (some ⟨c.pc, 0, none⟩), .int .i64 5, .int .i64 0] w3 fun e w' => (∃ x, e = .returned (.int .i64 x)) ∧ ∃ c' : Ks, c'.pc = c.pc ∧ Cl w' w.heap.size l6 c' [(3, 0), (5, 0)] ∧ Below w.heap.size w3 w' := fun w3 c C =>
    (kMerge_in w3 w.heap.size l6 c [(3, 0)] C 5 0 (by decide)).mono fun e w' ⟨he, c', C', K, hp, _⟩ => ⟨⟨_, he⟩, c', hp, C', Kept.below K C.un.low (fun k hk => C.foot_ge hk)⟩
  have S1 : ∀ w3 c, Cl w3 w.heap.size l6 c [(3, 0)] → Calls Try.prog 47 #[.pointer (some ⟨c.pc, 0, none⟩), .int .i64 1, .int .i64 0] w3 fun e w' => e = .returned (.bool false) ∧ ∃ m, w' = w3.drewN m := fun w3 c C => by
    have := kSame_in w3 w.heap.size l6 c _ C 1 0
    have hs : sameB l6.length c.z.g 1 0 = false := by
      cases hc : sameB l6.length c.z.g 1 0
      · rfl
      · have := l6_no 1 0 ((C.un.same (i := 1) (j := 0) (by decide) (by decide)).1 hc)
        omega
    rw [hs] at this
    exact this
  have S2 : ∀ w3 c, Cl w3 w.heap.size l6 c [(3, 0), (5, 0)] → Calls Try.prog 47 #[.pointer (some ⟨c.pc, 0, none⟩), .int .i64 1, .int .i64 0] w3 fun e w' => e = .returned (.bool true) ∧ ∃ m, w' = w3.drewN m := fun w3 c C => by
    have := kSame_in w3 w.heap.size l6 c _ C 1 0
    have hs : sameB l6.length c.z.g 1 0 = true := (C.un.same (i := 1) (j := 0) (by decide) (by decide)).2 l6_yes
    rw [hs] at this
    exact this
  have M1h : Hid _ := M1
  have M2h : Hid _ := M2
  have S1h : Hid _ := S1
  have S2h : Hid _ := S2
  clear M1 M2 S1 S2 hm1 hm2
  go_enter Try.func48, Try.ntmps48
  go_wp2_with (first | (go_at_call 15; refine NEW.mono ?_; rintro e w1 ⟨p, nb, fb, rfl, H1, B1⟩; have RD := tRead_in w1 w.heap.size p _ nb fb [] H1 (by simp) B1.size tx5; rw [t5_read] at RD; unfold tx5 at RD) | (go_at_call 16; refine RD.mono ?_; rintro e w2 ⟨rfl, ev2, H2, K2, _⟩; have NC := kNew_in w2 w.heap.size p ev2 nb fb l6 H2 l6_bd.1 (by decide)) | (go_at_call 38; refine NC.mono ?_; rintro e w3 ⟨c, rfl, C0, K3⟩; have hb2 : w.heap.size ≤ w2.heap.size := Nat.le_trans B1.size K2.size; have C1 := C0.base hb2; have MM1 := M1h.out w3 c C1; replace C0 : Hid _ := C0; replace C1 : Hid _ := C1) | (go_at_call 39; refine MM2.mono ?_; rintro e w6 ⟨⟨x6, rfl⟩, c6, hc6, C6, B6⟩; have SS2 := S2h.out w6 c6 C6; rw [hc6] at SS2; clear MM2) | (go_at_call 39; refine MM1.mono ?_; rintro e w4 ⟨⟨x4, rfl⟩, c4, hc4, C4, B4⟩; have SS1 := S1h.out w4 c4 C4; rw [hc4] at SS1; clear MM1) | (go_at_call 47; refine SS2.mono ?_; rintro e w7 ⟨rfl, m7, rfl⟩; have C7 := C6.kept0 ((Kept.refl _ w6).drewN m7); have MK := kMark_in _ _ _ _ _ C7; rw [hc6] at MK; clear SS2) | (go_at_call 47; refine SS1.mono ?_; rintro e w5 ⟨rfl, m5, rfl⟩; have C5 := C4.kept0 ((Kept.refl _ w4).drewN m5); have MM2 := M2h.out _ c4 C5; rw [hc4] at MM2; clear SS1) | (go_at_call 46; refine MK.mono ?_; rintro e w8 ⟨rfl, rfl⟩))
  go_ret
  have b2 : Below w.heap.size w1 w2 := Kept.below K2 B1.size (fun k e => by
    rcases e with e | e | e | e
    · rw [e]; exact H1.bp
    · rw [e]; exact H1.bn
    · rw [e]; exact H1.bf
    · simp [Value.ownBlock] at e)
  have b3 : Below w.heap.size w2 w3 := Kept.below K3 hb2 (fun _ e => e.elim)
  have s3 := b3.size
  have s4 := B4.size
  have s6 := B6.size
  have b5 : Below w.heap.size w4 (w4.drewN m5) := Kept.below (S := fun _ => False) ((Kept.refl _ w4).drewN m5) (by omega) (fun _ e => e.elim)
  have b7 : Below w.heap.size w6 (w6.drewN m7) := Kept.below (S := fun _ => False) ((Kept.refl _ w6).drewN m7) (by have : w4.heap.size ≤ w6.heap.size := s6; omega) (fun _ e => e.elim)
  exact ⟨rfl, (((((B1.trans b2).trans b3).trans B4).trans b5).trans B6).trans b7⟩

/-- Two closures of one list. -/
structure Cd (w W : World) (l : List Tm) (c d : Ks) (P Q : List (Nat × Nat)) : Prop where
  cl : Cl W w.heap.size l c P
  dl : Cl W w.heap.size l d Q
  dis : ∀ k, c.All k → ¬ d.All k
  bel : Below w.heap.size w W

theorem Cd.swap {w W : World} {l : List Tm} {c d : Ks} {P Q : List (Nat × Nat)} (h : Cd w W l c d P Q) : Cd w W l d c Q P := ⟨h.dl, h.cl, fun k hk hk2 => h.dis k hk2 hk, h.bel⟩
theorem Cd.kept0 {w W W' : World} {l : List Tm} {c d : Ks} {P Q : List (Nat × Nat)} (h : Cd w W l c d P Q) (K : Kept0 W W') : Cd w W' l c d P Q := ⟨h.cl.kept0 K, h.dl.kept0 K, h.dis, h.bel.trans (Kept.below K h.bel.size (fun _ e => e.elim))⟩
theorem Cd.merge {w W : World} {l : List Tm} {c d : Ks} {P Q : List (Nat × Nat)} (h : Cd w W l c d P Q) (a b : Int) (hn : (P.length + 1) * 8 ≤ 140737488355328) :
    Calls Try.prog 39 #[.pointer (some ⟨c.pc, 0, none⟩), .int .i64 a, .int .i64 b] W fun e W' => e = .returned (.int .i64 (mergeE l a b)) ∧ ∃ c' : Ks, c'.pc = c.pc ∧ Cd w W' l c' d (mergeP l P a b) Q ∧ Kept (fun k => w.heap.size ≤ k ∧ ¬ d.All k) W W' := by
  refine (kMerge_in W w.heap.size l c P h.cl a b hn).mono ?_
  rintro e W' ⟨he, c', C', K, hp, hA⟩
  refine ⟨he, c', hp, ⟨C', h.dl.keep K (fun k hk hf => h.dis k hf.all hk), fun k hk hk2 => ?_, h.bel.trans (Kept.below K h.bel.size (fun k hk => h.cl.foot_ge hk))⟩, Kept.mono K (fun k _ hk => ⟨h.cl.foot_ge hk, h.dis k hk.all⟩)⟩
  rcases hA k hk with e | e
  · exact h.dis k e hk2
  · have := h.dl.all_lt hk2; omega

end Go.Proofs.Ytinphcnknionmaa
