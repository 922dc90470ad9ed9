/- law03: CloseAll, call by call. law03: ints, num, and rows of numbers. -/
import Derived.Test.YtinphcnknionmaaG59
import Derived.Deep.QuietTactic
namespace Go.Proofs.Ytinphcnknionmaa
open Go.RowKit Go.Maps

theorem Prw.of_rowE {w : World} {base : Nat} {e : TypeId} {v : Value} {ps : List (Int × Int)} (h : w.ownsRow base e 2 v ps.length (pairC ps)) : ∃ a cap, v = .slice a ps.length cap ∧ Prw w a ps := by
  rcases h.2 with ⟨e1, e2⟩ | ⟨g, cap, cur, e1, _⟩
  · have : ps = [] := List.length_eq_zero_iff.1 e2
    subst this
    exact ⟨none, 0, e1, fun k x hk => by simp at hk⟩
  · subst e1
    refine ⟨_, _, rfl, fun k x hk => ?_⟩
    obtain ⟨g1, g2⟩ := pairC_get ps k x hk
    have hkl := (List.getElem?_eq_some_iff.1 hk).1
    have c1 := h.cellAt (k * 2) (by omega)
    have c2 := h.cellAt (k * 2 + 1) (by omega)
    exact ⟨g, 0, rfl, (h.lt g (by simp [Value.ownBlock])).2, by rw [Nat.zero_add, c1, g1], by rw [Nat.zero_add, c2, g2]⟩
theorem pInt_len (P : List (Nat × Nat)) : (pInt P).length = P.length := by simp [pInt]

theorem pRead_len (s : ByteArray) (l : List Tm) (hl : l.length ≤ 150) : (pRead s l).2.2.2.length ≤ 150 := by
  unfold pRead pWhole
  split
  · exact hl
  · split
    · exact hl
    · split
      · exact hl
      · split
        · exact hl
        · next h => exact Nat.le_of_not_lt h

theorem Ca.other {w : World} {B : Nat} {W : World} {p nb fb : Nat} {av : Value} {l : List Tm} {vs : List Value} {ev : Value} {lb : List Tm} {c o : Ks} {P Q T : List (Nat × Nat)} {tv : Value} (h : Ca w B W p nb fb av l vs ev lb c o P Q T tv) (a b : Int) (hn : (Q.length + 1) * 8 ≤ 140737488355328) :
    Calls Try.prog 39 #[.pointer (some ⟨o.pc, 0, none⟩), .int .i64 a, .int .i64 b] W fun e W' => (∃ x, e = .returned (.int .i64 x)) ∧ ∃ (o' : Ks) (Q' : List (Nat × Nat)), o'.pc = o.pc ∧ Q'.length ≤ Q.length + 1 ∧ Ca w B W' p nb fb av l vs ev lb c o' P Q' T tv ∧ Kept o.All W W' := by
  refine (kMerge_in W B l o Q h.ol a b hn).mono ?_
  rintro e W' ⟨he, o', O', K, hp, hA⟩
  exact ⟨⟨_, he⟩, o', _, hp, mergeP_len l Q a b, h.movO (Kept.mono K (fun _ _ e => e.all)) O' hA, Kept.mono K (fun _ _ e => e.all)⟩
theorem Ca.tell {w : World} {B : Nat} {W : World} {p nb fb : Nat} {av : Value} {l : List Tm} {vs : List Value} {ev : Value} {lb : List Tm} {c o : Ks} {P Q T : List (Nat × Nat)} {tv : Value} (h : Ca w B W p nb fb av l vs ev lb c o P Q T tv) (a b : Int) (hn : (P.length + 1) * 8 ≤ 140737488355328) :
    Calls Try.prog 39 #[.pointer (some ⟨c.pc, 0, none⟩), .int .i64 a, .int .i64 b] W fun e W' => e = .returned (.int .i64 (mergeE l a b)) ∧ ∃ c' : Ks, c'.pc = c.pc ∧ Ca w B W' p nb fb av l vs ev lb c' o (mergeP l P a b) Q T tv ∧ Kept c.All W W' := by
  refine (qMerge_in W B l c P h.cq a b hn).mono ?_
  rintro e W' ⟨he, c', C', K, hp, hA⟩
  exact ⟨he, c', hp, h.movC (Kept.mono K (fun _ _ e => e.all)) C' hA, Kept.mono K (fun _ _ e => e.all)⟩
theorem Ca.undo {w : World} {B : Nat} {W : World} {p nb fb : Nat} {av : Value} {l : List Tm} {vs : List Value} {ev : Value} {lb : List Tm} {c o : Ks} {P Q T : List (Nat × Nat)} {tv : Value} (h : Ca w B W p nb fb av l vs ev lb c o P Q T tv) (m : Int) :
    Calls Try.prog 42 #[.pointer (some ⟨c.pc, 0, none⟩), .int .i64 m] W fun e W' => e = .returned (.bool (undoB P m)) ∧ ∃ c' : Ks, c'.pc = c.pc ∧ Ca w B W' p nb fb av l vs ev lb c' o (undoP P m) Q T tv ∧ Kept c.All W W' := by
  refine (qUndo_in W B l c P h.cq m).mono ?_
  rintro e W' ⟨he, c', C', K, hp, hA⟩
  exact ⟨he, c', hp, h.movC (Kept.mono K (fun _ _ e => e.all)) C' (fun k hk => .inl (hA k hk)), Kept.mono K (fun _ _ e => e.all)⟩
theorem Ca.read {w : World} {B : Nat} {W : World} {p nb fb : Nat} {av : Value} {l : List Tm} {vs : List Value} {ev : Value} {lb : List Tm} {c o : Ks} {P Q T : List (Nat × Nat)} {tv : Value} (h : Ca w B W p nb fb av l vs ev lb c o P Q T tv) (s : ByteArray) :
    Calls Try.prog 16 #[.pointer (some ⟨p, 0, none⟩), .string s] W fun e W' => (∃ x y z, e = .returned (.tuple #[.int .i64 x, .int .i64 y, .int .i64 z])) ∧ ∃ ev' lb', Ca w B W' p nb fb av l vs ev' lb' c o P Q T tv := by
  refine (tRead_in W w.heap.size p ev nb fb lb h.bk h.bl h.bel.size s).mono ?_
  rintro e W' ⟨he, ev', B', K, hl⟩
  exact ⟨⟨_, _, _, he⟩, ev', _, h.movB K B' (pRead_len s lb h.bl) hl⟩

/-- A pair is noted. -/
theorem Ca.note {w : World} {B : Nat} {W wa w1 : World} {p nb fb : Nat} {av : Value} {l : List Tm} {vs : List Value} {ev : Value} {lb : List Tm} {c o : Ks} {P Q T : List (Nat × Nat)} {tv v' : Value} (h : Ca w B W p nb fb av l vs ev lb c o P Q T tv) (K0 : Kept0 W wa) {a b : Nat}
    (hown : w1.ownsRow B 70 2 v' (T.length + 1) (pairC (pInt T) ++ [.int .i64 (a : Int), .int .i64 (b : Int)])) (hgrow : wa.grownBy w1 tv.ownBlock) (hloc : v'.ownBlock = tv.ownBlock ∨ ∀ k, v'.ownBlock = some k → wa.heap.size ≤ k) : Ca w B w1 p nb fb av l vs ev lb c o P Q (T ++ [(a, b)]) v' := by
  refine h.movT (Kept.grown (Kept.mono K0 (fun _ _ e => e.elim)) hgrow (fun _ e => e)) ?_ (hloc.imp id (fun e k hk => Nat.le_trans K0.size (e k hk)))
  have e : pInt (T ++ [(a, b)]) = pInt T ++ [((a : Int), (b : Int))] := by simp [pInt]
  rw [List.length_append, e, pairC_snoc]
  exact hown
theorem pairC_take (ps : List (Int × Int)) (m : Nat) : pairC (ps.take m) = (pairC ps).take (m * 2) := by
  induction ps generalizing m with
  | nil => simp [pairC]
  | cons x xs ih =>
    cases m with
    | zero => simp [pairC]
    | succ m =>
      have e : pairC (x :: xs) = .int .i64 x.1 :: .int .i64 x.2 :: pairC xs := rfl
      have e2 : pairC (x :: xs.take m) = .int .i64 x.1 :: .int .i64 x.2 :: pairC (xs.take m) := rfl
      rw [List.take_succ_cons, e, e2, ih, show (m + 1) * 2 = m * 2 + 1 + 1 by omega, List.take_succ_cons, List.take_succ_cons]
/-- Pairs are taken back. -/
theorem Ca.cut {w : World} {B : Nat} {W : World} {p nb fb : Nat} {av : Value} {l : List Tm} {vs : List Value} {ev : Value} {lb : List Tm} {c o : Ks} {P Q T : List (Nat × Nat)} {ta : Option Addr} {tc : Nat} (h : Ca w B W p nb fb av l vs ev lb c o P Q T (.slice ta T.length tc)) (m : Nat) (hm : m ≤ T.length) : Ca w B W p nb fb av l vs ev lb c o P Q (T.take m) (.slice ta m tc) := by
  have e : (T.take m).length = m := by rw [List.length_take]; omega
  have e2 : pInt (T.take m) = (pInt T).take m := by simp [pInt, List.map_take]
  refine h.movT (Kept.refl _ W) ?_ (.inl (by cases ta <;> rfl))
  rw [e, e2, pairC_take]
  rcases h.row.2 with ⟨e1, e3⟩ | ⟨g, cap, cur, e1, _⟩
  · have hT : T = [] := List.length_eq_zero_iff.1 e3
    subst hT
    have : m = 0 := by simpa using hm
    subst this
    have e5 : Value.slice ta 0 tc = .slice none 0 0 := e1
    rw [e5]
    exact World.ownsRow_nil _ _ _ _
  · simp only [Value.slice.injEq] at e1
    obtain ⟨rfl, _, _⟩ := e1
    exact ownsRow_cut h.row rfl hm

theorem Ca.forms {w : World} {B : Nat} {W : World} {p nb fb : Nat} {av : Value} {l : List Tm} {vs : List Value} {ev : Value} {lb : List Tm} {c o : Ks} {P Q T : List (Nat × Nat)} {tv : Value} (h : Ca w B W p nb fb av l vs ev lb c o P Q T tv) : ∃ ta tc, tv = .slice ta T.length tc := row_form' h.row

/-- The document's answer is the program's. -/
theorem Ca.closed {w : World} {B : Nat} {W : World} {p nb fb : Nat} {aa : Option Addr} {ac : Nat} {l : List Tm} {vs : List Value} {ev : Value} {lb : List Tm} {c o : Ks} {P Q : List (Nat × Nat)} {ta : Option Addr} {tc : Nat} (h : Ca w B W p nb fb (.slice aa l.length ac) l vs ev lb c o P Q P (.slice ta P.length tc)) (hb : Cc.Bd l) (hl : l.length ≤ 150) (hr : P.length ≤ 8796093022208) :
    Calls Try.prog 43 #[.slice aa l.length ac, .slice ta P.length tc] W fun e w' => ∃ va vc, e = .returned (.slice va l.length vc) ∧ w'.ownsRow W.heap.size 3 1 (.slice va l.length vc) l.length (natC (lows l c.z.g)) ∧ Kept0 W w' := by
  have hrow := h.row
  rw [← pInt_len] at hrow
  obtain ⟨a2, c2, e2, hP⟩ := Prw.of_rowE hrow
  rw [pInt_len] at e2
  cases e2
  refine (closed_in W w.heap.size aa ac l vs h.ls hb hl ta tc P hP (fun p hp => ?_) hr).mono ?_
  · have := h.cq.cl.un.inv.tld p hp
    exact ⟨this.1, this.2.1⟩
  · rintro e w' ⟨v, s, rfl, R, J, D, K⟩
    obtain ⟨va, vc, rfl⟩ := row_form' R
    refine ⟨va, vc, rfl, ?_, K⟩
    have e3 : intsC (Uf.los l.length s.1) = natC (lows l c.z.g) := by
      show (Uf.los l.length s.1).map _ = (lows l c.z.g).map _
      have e4 : Uf.los l.length s.1 = lows l c.z.g := by
        unfold Uf.los lows
        exact List.map_congr_left (fun i hi => J.least hb D h.cq.cl (List.mem_range.1 hi))
      rw [e4]
    rw [← e3]
    exact R

end Go.Proofs.Ytinphcnknionmaa

namespace Go.Proofs.Ytinphcnknionmaa
open Go.RowKit Go.Maps

theorem rowIs_owns {W : World} {b n : Nat} {f : Nat → Nat} (h : W.rowIs b 3 n (fun i => .int .i64 (f i : Int))) (hn : n ≤ maxLen) : W.ownsRow b 3 1 (.slice (some ⟨b, 0, none⟩) n n) n (natC ((List.range n).map f)) := by
  obtain ⟨cur, h1, h2, h3⟩ := h
  refine ⟨by simp [natC], .inr ⟨b, n, cur, rfl, Nat.le_refl _, h1, Nat.le_refl _, hn, by rw [h2, Nat.mul_one], ?_⟩⟩
  rw [Nat.mul_one]
  apply List.ext_getElem?
  intro i
  by_cases hi : i < n
  · have := h3 i hi
    rw [List.getElem?_take_of_lt hi, natC_get]
    simp [hi, this]
  · rw [List.getElem?_eq_none (by rw [List.length_take]; omega), List.getElem?_eq_none (by simp [natC]; omega)]

set_option maxHeartbeats 1000000 in
theorem num_in (w : World) (a : Int) : Calls Try.prog 41 #[.int .i64 a] w fun e w' => e = .returned (.int .i64 a) ∧ w = w' := by
  go_enter Try.func41, Try.ntmps41
  go_wp2
  go_ret
  exact ⟨rfl, rfl⟩

set_option maxHeartbeats 1000000 in
set_option maxRecDepth 100000 in
theorem ints3_in (w : World) (B1 B2 : Nat) (a1 a2 : Option Addr) (c1 c2 : Nat) (xs : List Nat) (h1 : w.ownsRow B1 3 1 (.slice a1 xs.length c1) xs.length (natC xs)) (h2 : w.ownsRow B2 3 1 (.slice a2 xs.length c2) xs.length (natC xs)) (hn : xs.length ≤ 1000) :
    Calls Try.prog 45 #[.slice a1 xs.length c1, .slice a2 xs.length c2] w fun e w' => e = .returned (.bool true) ∧ Kept0 w w' := by
  have cell : ∀ {B : Nat} {a : Option Addr} {c : Nat}, w.ownsRow B 3 1 (.slice a xs.length c) xs.length (natC xs) → ∀ k, k < xs.length → ∃ g, a = some ⟨g, 0, none⟩ ∧ ∀ W, Kept0 w W → W.cell? ⟨g, k, none⟩ = some (.int .i64 ((xs[k]?.getD 0 : Nat) : Int)) := by
    intro B a c h k hk
    rcases h.2 with ⟨_, e2⟩ | ⟨g, c9, cur, e', _⟩
    · omega
    · simp only [Value.slice.injEq] at e'
      obtain ⟨rfl, _, _⟩ := e'
      refine ⟨g, rfl, fun W K => ?_⟩
      have := (ownsRow_block h (fun j hj => K.block j (h.lt j hj).2 (fun e => e))).cellAt k (by omega)
      rw [natC_get, List.getElem?_eq_getElem hk] at this
      rw [List.getElem?_eq_getElem hk]
      exact this
  have C1 : Hid (∀ k, k < xs.length → ∃ g, a1 = some ⟨g, 0, none⟩ ∧ ∀ W, Kept0 w W → W.cell? ⟨g, k, none⟩ = some (.int .i64 ((xs[k]?.getD 0 : Nat) : Int))) := cell h1
  have C2 : Hid (∀ k, k < xs.length → ∃ g, a2 = some ⟨g, 0, none⟩ ∧ ∀ W, Kept0 w W → W.cell? ⟨g, k, none⟩ = some (.int .i64 ((xs[k]?.getD 0 : Nat) : Int))) := cell h2
  clear cell h1 h2
  go_enter Try.func45, Try.ntmps45
  go_wp2_with fail
  go_loopw [5] (fun t5 W => ∃ k : Nat, k ≤ xs.length ∧ t5 = .int .i64 (k : Int) ∧ Kept0 w W) (fun t5 _ => xs.length - (intOf t5).toNat)
  case atStart => exact ⟨0, by omega, rfl, Kept.refl _ _⟩
  case round =>
    obtain ⟨k, hk, rfl, K⟩ := hrel
    by_cases hk2 : k < xs.length
    · have dk : decide ((k : Int) < (xs.length : Int)) = true := decide_eq_true (by omega)
      obtain ⟨g1, rfl, x1⟩ := C1.out k hk2
      obtain ⟨g2, rfl, x2⟩ := C2.out k hk2
      have y1 := x1 wr K
      have y2 := x2 wr K
      have HK : Hid _ := K
      clear K x1 x2
      generalize xs[k]?.getD 0 = z at *
      go_wp2_with fail
      go_quiet (fail)
      go_wp2_with fail
      exact ⟨⟨k + 1, by omega, by simp, HK.out.drewN _⟩, by simp [intOf]; omega⟩
    · have dk : decide ((k : Int) < (xs.length : Int)) = false := decide_eq_false (by omega)
      go_wp2_with fail
      go_ret
      exact ⟨rfl, K⟩

end Go.Proofs.Ytinphcnknionmaa
