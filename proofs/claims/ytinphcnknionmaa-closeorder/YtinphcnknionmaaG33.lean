/- What the constant text says, plainly. law01.alive; what reading keeps. TermReads' walk. -/
import Derived.Test.YtinphcnknionmaaSRefL
namespace Go.Proofs.Ytinphcnknionmaa
open Go.RowKit

/-- f(a, g(a)) -/
def txt : ByteArray := ⟨#[102, 40, 97, 44, 32, 103, 40, 97, 41, 41]⟩
def tA : Tm := ⟨⟨#[97]⟩, []⟩
def tG : Tm := ⟨⟨#[103]⟩, [0]⟩
def tF : Tm := ⟨⟨#[102]⟩, [0, 1]⟩

theorem tx_size : txt.size = 10 := rfl
theorem tx_n0 : nmE txt 0 = 1 := by rw [nmE_at (by decide) (by decide), nmE_end (by decide)]
theorem tx_n2 : nmE txt 2 = 3 := by rw [nmE_at (by decide) (by decide), nmE_end (by decide)]
theorem tx_n5 : nmE txt 5 = 6 := by rw [nmE_at (by decide) (by decide), nmE_end (by decide)]
theorem tx_n7 : nmE txt 7 = 8 := by rw [nmE_at (by decide) (by decide), nmE_end (by decide)]
theorem tx_b0 : bl txt 0 = 0 := bl_end (by decide)
theorem tx_b1 : bl txt 1 = 1 := bl_end (by decide)
theorem tx_b2 : bl txt 2 = 2 := bl_end (by decide)
theorem tx_b3 : bl txt 3 = 3 := bl_end (by decide)
theorem tx_b4 : bl txt 4 = 5 := by rw [bl_at (by decide) (by decide), bl_end (by decide)]
theorem tx_b6 : bl txt 6 = 6 := bl_end (by decide)
theorem tx_b7 : bl txt 7 = 7 := bl_end (by decide)
theorem tx_b8 : bl txt 8 = 8 := bl_end (by decide)
theorem tx_b9 : bl txt 9 = 9 := bl_end (by decide)
theorem tx_b10 : bl txt 10 = 10 := bl_end (by decide)
theorem tx_w0 : badNm txt 0 = false := by simp only [badNm, tx_n0]; decide
theorem tx_w2 : badNm txt 2 = false := by simp only [badNm, tx_n2]; decide
theorem tx_w5 : badNm txt 5 = false := by simp only [badNm, tx_n5]; decide
theorem tx_w7 : badNm txt 7 = false := by simp only [badNm, tx_n7]; decide
theorem tx_h1 : behind txt 1 40 = 2 := by rw [behind_true (by decide)]; exact tx_b2
theorem tx_h6 : behind txt 6 40 = 7 := by rw [behind_true (by decide)]; exact tx_b7
theorem tx_h3 : behind txt 3 44 = 5 := by rw [behind_true (by decide)]; exact tx_b4
theorem tx_h8 : behind txt 8 41 = 9 := by rw [behind_true (by decide)]; exact tx_b9
theorem tx_h9 : behind txt 9 41 = 10 := by rw [behind_true (by decide)]; exact tx_b10

theorem tx_a2 (f d : Nat) (hd : ¬ 12 < d) : pTerm txt (f + 1) d 2 [] = .ok 0 3 [tA] := by
  rw [pTerm, tx_w2, tx_n2, tx_b3]
  simp only [Bool.false_eq_true, if_false, hd, show stands txt 3 40 = false from by decide]
  rfl
theorem tx_a7 (f d : Nat) (hd : ¬ 12 < d) : pTerm txt (f + 1) d 7 [tA] = .ok 0 8 [tA] := by
  rw [pTerm, tx_w7, tx_n7, tx_b8]
  simp only [Bool.false_eq_true, if_false, hd, show stands txt 8 40 = false from by decide]
  rfl
theorem tx_g (f d : Nat) (hd : ¬ 11 < d) : pTerm txt (f + 3) d 5 [tA] = .ok 1 9 [tA, tG] := by
  rw [pTerm, tx_w5, tx_n5, tx_b6, tx_h6]
  simp only [Bool.false_eq_true, if_false, show ¬ 12 < d from by omega, show stands txt 6 40 = true from by decide, if_true]
  rw [pArgs, if_neg (by decide), if_neg (by decide), tx_a7 f (d + 1) (by omega)]
  simp only [show stands txt 8 41 = true from by decide, if_true, tx_h8]
  rfl
theorem tx_f (f : Nat) : pTerm txt (f + 6) 0 0 [] = .ok 2 10 [tA, tG, tF] := by
  rw [pTerm, tx_w0, tx_n0, tx_b1, tx_h1]
  simp only [Bool.false_eq_true, if_false, show ¬ 12 < 0 from by omega, show stands txt 1 40 = true from by decide, if_true]
  rw [pArgs, if_neg (by decide), if_neg (by decide), tx_a2 (f + 3) (0 + 1) (by omega)]
  simp only [show stands txt 3 41 = false from by decide, Bool.false_eq_true, if_false, show stands txt 3 44 = true from by decide, if_true, tx_h3]
  rw [pArgs, if_neg (by decide), if_neg (by decide), tx_g f (0 + 1) (by omega)]
  simp only [show stands txt 9 41 = true from by decide, if_true, tx_h9]
  rfl
theorem tx_read : pRead txt [] = (2, 0, 0, [tA, tG, tF]) := by
  rw [pRead, if_neg (by decide), pWhole, tx_b0, show 2 * txt.size + 1 = 15 + 6 from rfl, tx_f 15]
  rfl
theorem tx_shw : shw [tA, tG, tF] 13 2 = [102, 40, 97, 44, 103, 40, 97, 41, 41] := by rfl
theorem Hs_nil : Hs [] := fun n hn => absurd hn (by simp)
theorem Good_nil : Good [] := ⟨by simp, by simp⟩

end Go.Proofs.Ytinphcnknionmaa

namespace Go.Proofs.Ytinphcnknionmaa
open Go.RowKit

/-- What a bank keeps to. -/
structure Kp (l : List Tm) : Prop where
  hs : Hs l
  good : Good l
  len : l.length ≤ 150

theorem Kp.nil : Kp [] := ⟨Hs_nil, Good_nil, by simp⟩
theorem Kp.read {l : List Tm} (h : Kp l) (s : ByteArray) : Kp (pRead s l).2.2.2 := by
  unfold pRead
  split
  · exact h
  · unfold pWhole
    have hb := bl_le (s := s) (i := 0) (by omega)
    split
    · exact h
    · next n k l' hx =>
      split
      · exact h
      · split
        · exact h
        · exact ⟨((p_hs s _).1 0 (bl s 0) l n k l' hb h.hs hx).1, (p_good s _).1 0 (bl s 0) l n k l' hb h.good hx, by show l'.length ≤ 150; omega⟩

set_option maxHeartbeats 400000 in
theorem num1_any (w : World) (a : Int) : Calls Try.prog 18 #[.int .i64 a] w fun e w' => e = .returned (.int .i64 a) ∧ w = w' := by
  go_enter Try.func18, Try.ntmps18
  go_wp2
  go_ret
  exact ⟨rfl, rfl⟩

set_option maxHeartbeats 2000000 in
set_option maxRecDepth 100000 in
theorem alive1_any (w : World) : Calls Try.prog 20 #[] w fun e w' => e = .returned (.bool true) ∧ Below w.heap.size w w' := by
  have NEW := tNew_any w
  have hKt : Kp [tA, tG, tF] := by have := Kp.nil.read txt; rw [tx_read] at this; exact this
  have TSX : ∀ (w2 : World) (p : Nat) (ev2 : Value) (nb fb : Nat), Bk w2 w.heap.size p ev2 nb fb [tA, tG, tF] → Calls Try.prog 23 #[.pointer (some ⟨p, 0, none⟩), .int .i64 2] w2 fun e w3 => ∃ g vc, e = .returned (.tuple #[.agg #[.string ⟨#[102]⟩, .slice (some ⟨g, 0, none⟩) 2 vc], .bool true]) ∧ w3.cell? ⟨g, 1, none⟩ = some (.int .i64 1) ∧ Below w2.heap.size w2 w3 := by
    intro w2 p ev2 nb fb H2
    refine (term_some w2 w.heap.size p ev2 nb fb _ H2 2 tF rfl).mono ?_
    rintro e w3 ⟨v, he, O3, B3⟩
    obtain ⟨g, cap, hv, hc⟩ := arg_cell (xs := tF.args) O3 (j := 1) (by decide)
    exact ⟨g, cap, by rw [he, hv]; rfl, hc, B3⟩
  have hsh : shwB [tA, tG, tF] 2 = ⟨#[102, 40, 97, 44, 103, 40, 97, 41, 41]⟩ := by
    have := shwB_in (l := [tA, tG, tF]) (n := 2) (by decide)
    rw [tx_shw] at this
    exact this
  go_enter Try.func20, Try.ntmps20
  go_wp2_with (first | (go_at_call 15; refine NEW.mono ?_; rintro e w1 ⟨p, nb, fb, rfl, H1, B1⟩; have RD := tRead_in w1 w.heap.size p _ nb fb [] H1 (by simp) B1.size txt; rw [tx_read] at RD; unfold txt at RD) | (go_at_call 16; refine RD.mono ?_; rintro e w2 ⟨rfl, ev2, H2, K2, _⟩; have TS := TSX w2 p ev2 nb fb H2) | (go_at_call 23; refine TS.mono ?_; rintro e w3 ⟨g, vc, rfl, c3, B3⟩; have H3 := H2.below H2.low B3; have y4 := ans_box w3 (.string ⟨#[102]⟩) (.slice (some ⟨g, 0, none⟩) 2 vc); have K4 : Kept0 w3 (w3.alloc (.cells #[.string ⟨#[102]⟩, .slice (some ⟨g, 0, none⟩) 2 vc] 42)) := Kept.alloc (Kept.refl _ w3) _; have SZ := size_in _ w.heap.size p ev2 nb fb _ (H3.kept0 K4); have SH := show_in _ w.heap.size p ev2 nb fb _ (H3.kept0 K4) hKt.hs 2; rw [hsh] at SH; have c4 := (World.cell?_of_block (K4.block g (World.block_lt_of_cell? w3 _ c3) (fun e => e))).trans c3) | (go_at_call 18; refine (num1_any _ _).mono ?_; rintro e w9 ⟨rfl, rfl⟩) | (go_at_call 21; refine SZ.mono ?_; rintro e w9 ⟨rfl, rfl⟩) | (go_at_call 22; refine SH.mono ?_; rintro e w5 ⟨rfl, B5⟩; have d0 := (B5.cell (World.block_lt_of_cell? _ _ y4.1)).trans y4.1; have d1 := (B5.cell (World.block_lt_of_cell? _ _ y4.2)).trans y4.2; have d2 := (B5.cell (World.block_lt_of_cell? _ _ c4)).trans c4))
  go_ret
  have b2 : Below w.heap.size w1 w2 := Kept.below K2 B1.size (fun k e => by
    rcases e with e | e | e | e
    · rw [e]; exact H1.bp
    · rw [e]; exact H1.bn
    · rw [e]; exact H1.bf
    · simp [Value.ownBlock] at e)
  have s1 := B1.size
  have s2 := b2.size
  have s3 := B3.size
  have s4 := K4.size
  exact ⟨rfl, (((B1.trans b2).trans (B3.mono (by omega))).trans (Kept.below K4 (by omega) (fun _ e => e.elim))).trans (B5.mono (by omega))⟩

end Go.Proofs.Ytinphcnknionmaa

namespace Go.Proofs.Ytinphcnknionmaa
open Go.RowKit Go.Maps

/-- Blocks of other types are none of a bank's. -/
theorem Bk.apart {w : World} {base p : Nat} {ev : Value} {nb fb : Nat} {l : List Tm} (h : Bk w base p ev nb fb l) {k : Nat} {c : Array Value} {T : TypeId} {fz : Nat × Nat} (hk : w.heap[k]? = some (.cells c T fz)) (h1 : T ≠ 105) (h2 : T ≠ 124) : ¬ BFoot p ev nb fb k := by
  rintro (e | e | e | e)
  · subst e
    obtain ⟨c2, h3, _⟩ := h.bank
    rw [hk] at h3
    injection h3 with h3
    injection h3 with _ h4
    exact h1 h4
  · subst e
    obtain ⟨D, ⟨es, ck, n1, _⟩, _⟩ := h.nums
    rw [hk] at n1
    cases n1
  · subst e
    obtain ⟨D, ⟨es, ck, n1, _⟩, _⟩ := h.fsts
    rw [hk] at n1
    cases n1
  · rcases h.rows.2 with ⟨e2, _⟩ | ⟨b, cap, cur, e2, _, h3, _⟩
    · rw [e2] at e; simp [Value.ownBlock] at e
    · rw [e2] at e
      simp [Value.ownBlock] at e
      subst e
      rw [hk] at h3
      injection h3 with h3
      injection h3 with _ h4
      exact h2 h4

theorem RBk.kept {w w' : World} {base q : Nat} {av : Value} {l : List Tm} {vs : List Value} {S : Nat → Prop} (h : RBk w base q av l vs) (K : Kept S w w') (hS : ∀ k c T fz, w.heap[k]? = some (.cells c T fz) → T ≠ 105 → T ≠ 124 → ¬ S k) : RBk w' base q av l vs := by
  have rowk : ∀ {e : TypeId} {sz n : Nat} {v : Value} {xs : List Value}, e ≠ 105 → e ≠ 124 → w.ownsRow base e sz v n xs → ∀ b, v.ownBlock = some b → w'.heap[b]? = w.heap[b]? := by
    intro e sz n v xs h1 h2 hr b hb
    rcases hr.2 with ⟨e2, _⟩ | ⟨b', cap, cur, e2, _, h3, _⟩
    · rw [e2] at hb; simp [Value.ownBlock] at hb
    · rw [e2] at hb
      simp [Value.ownBlock] at hb
      subst hb
      exact K.block _ (right_lt h3) (hS _ _ _ _ h3 h1 h2)
  refine ⟨h.row.of_block ?_, h.ls.blocks (rowk (by decide) (by decide) h.ls.row) (fun u hu b hb => ?_), Nat.le_trans h.bs K.size⟩
  · obtain ⟨c, h1, _⟩ := h.row
    exact K.block q (right_lt h1) (hS _ _ _ _ h1 (by decide) (by decide))
  · obtain ⟨xs, hx⟩ := h.ls.mem hu
    exact rowk (by decide) (by decide) hx b hb

/-- Two banks and the document's. -/
structure Tri (w W : World) (p : Nat) (ev : Value) (nb fb : Nat) (l : List Tm) (p' : Nat) (ev' : Value) (nb' fb' : Nat) (lo : List Tm) (q : Nat) (av : Value) (vs : List Value) : Prop where
  b : Bk W w.heap.size p ev nb fb l
  o : Bk W w.heap.size p' ev' nb' fb' lo
  r : RBk W w.heap.size q av l vs
  dis : ∀ k, BFoot p ev nb fb k → ¬ BFoot p' ev' nb' fb' k
  kl : Kp l
  ko : Kp lo
  bel : Below w.heap.size w W
  rq : w.heap.size ≤ q

theorem Bk.foot_ge {w : World} {base p : Nat} {ev : Value} {nb fb : Nat} {l : List Tm} (h : Bk w base p ev nb fb l) {k : Nat} (hk : BFoot p ev nb fb k) : base ≤ k := by
  rcases hk with e | e | e | e
  · rw [e]; exact h.bp
  · rw [e]; exact h.bn
  · rw [e]; exact h.bf
  · exact (h.rows.lt k e).1
theorem Bk.foot_lt {w : World} {base p : Nat} {ev : Value} {nb fb : Nat} {l : List Tm} (h : Bk w base p ev nb fb l) {k : Nat} (hk : BFoot p ev nb fb k) : k < w.heap.size := by
  have L := h.low
  rcases hk with e | e | e | e
  · rw [e]; exact L.p
  · rw [e]; exact L.n
  · rw [e]; exact L.f
  · exact L.e k e
/-- A bank that another's change leaves alone. -/
theorem Bk.stays {w w' : World} {base p : Nat} {ev : Value} {nb fb : Nat} {l : List Tm} {S : Nat → Prop} (h : Bk w base p ev nb fb l) (K : Kept S w w') (hS : ∀ k, BFoot p ev nb fb k → ¬ S k) : Bk w' base p ev nb fb l :=
  h.blocks (K.block p h.low.p (hS p (Or.inl rfl))) (K.block nb h.low.n (hS nb (Or.inr (Or.inl rfl)))) (K.block fb h.low.f (hS fb (Or.inr (Or.inr (Or.inl rfl))))) (fun k e => K.block k (h.low.e k e) (hS k (Or.inr (Or.inr (Or.inr e)))))

theorem foot_new {p nb fb k : Nat} {ev ev2 : Value} {n : Nat} (h : BFoot p ev2 nb fb k) (hr : ev2.ownBlock = ev.ownBlock ∨ ∀ k, ev2.ownBlock = some k → n ≤ k) : BFoot p ev nb fb k ∨ n ≤ k := by
  rcases h with e | e | e | e
  · exact Or.inl (Or.inl e)
  · exact Or.inl (Or.inr (Or.inl e))
  · exact Or.inl (Or.inr (Or.inr (Or.inl e)))
  · rcases hr with e2 | e2
    · exact Or.inl (Or.inr (Or.inr (Or.inr (e2 ▸ e))))
    · exact Or.inr (e2 k e)

theorem Tri.readO {w W : World} {p : Nat} {ev : Value} {nb fb : Nat} {l : List Tm} {p' : Nat} {ev' : Value} {nb' fb' : Nat} {lo : List Tm} {q : Nat} {av : Value} {vs : List Value} (h : Tri w W p ev nb fb l p' ev' nb' fb' lo q av vs) (s : ByteArray) :
    Calls Try.prog 16 #[.pointer (some ⟨p', 0, none⟩), .string s] W fun e W' => e = .returned (.tuple #[.int .i64 ((pRead s lo).1 : Int), .int .i64 ((pRead s lo).2.1 : Int), .int .i64 ((pRead s lo).2.2.1 : Int)]) ∧ ∃ ev2, Tri w W' p ev nb fb l p' ev2 nb' fb' (pRead s lo).2.2.2 q av vs := by
  refine (tRead_in W w.heap.size p' ev' nb' fb' lo h.o h.ko.len h.bel.size s).mono ?_
  rintro e W' ⟨he, ev2, B2, K2, R2⟩
  refine ⟨he, ev2, h.b.stays K2 h.dis, B2, h.r.kept K2 (fun k c T fz hk h1 h2 => h.o.apart hk h1 h2), fun k hk hk2 => ?_, h.kl, h.ko.read s, h.bel.trans (Kept.below K2 h.bel.size (fun k e => h.o.foot_ge e)), h.rq⟩
  rcases foot_new hk2 R2 with e | e
  · exact h.dis k hk e
  · have := h.b.foot_lt hk; omega
theorem Tri.readB {w W : World} {p : Nat} {ev : Value} {nb fb : Nat} {l : List Tm} {p' : Nat} {ev' : Value} {nb' fb' : Nat} {lo : List Tm} {q : Nat} {av : Value} {vs : List Value} (h : Tri w W p ev nb fb l p' ev' nb' fb' lo q av vs) (s : ByteArray) :
    Calls Try.prog 16 #[.pointer (some ⟨p, 0, none⟩), .string s] W fun e W' => e = .returned (.tuple #[.int .i64 ((pRead s l).1 : Int), .int .i64 ((pRead s l).2.1 : Int), .int .i64 ((pRead s l).2.2.1 : Int)]) ∧ ∃ ev2, (Calls Try.prog 17 #[.pointer (some ⟨q, 0, none⟩), .string s] W' fun e W2 => e = .returned (.tuple #[.int .i64 ((pRead s l).1 : Int), .int .i64 ((pRead s l).2.1 : Int), .int .i64 ((pRead s l).2.2.1 : Int)]) ∧ ∃ av2 vs2, Tri w W2 p ev2 nb fb (pRead s l).2.2.2 p' ev' nb' fb' lo q av2 vs2) ∧ Below w.heap.size w W' := by
  refine (tRead_in W w.heap.size p ev nb fb l h.b h.kl.len h.bel.size s).mono ?_
  rintro e W' ⟨he, ev2, B2, K2, R2⟩
  have O2 := h.o.stays K2 (fun k hk e => h.dis k e hk)
  have RR := h.r.kept K2 (fun k c T fz hk h1 h2 => h.b.apart hk h1 h2)
  have bel2 := h.bel.trans (Kept.below K2 h.bel.size (fun k e => h.b.foot_ge e))
  have dis2 : ∀ k, BFoot p ev2 nb fb k → ¬ BFoot p' ev' nb' fb' k := fun k hk hk2 => by
    rcases foot_new hk R2 with e | e
    · exact h.dis k e hk2
    · have := h.o.foot_lt hk2; omega
  refine ⟨he, ev2, ?_, bel2⟩
  refine (rRead_in W' w.heap.size q av l vs RR h.kl.good h.kl.len s).mono ?_
  rintro e W2 ⟨he2, ⟨av2, vs2, R3⟩, K3⟩
  obtain ⟨cq, hq, _⟩ := RR.row
  have hqb := B2.apart hq (by decide) (by decide)
  have hqo := O2.apart hq (by decide) (by decide)
  have hql : w.heap.size ≤ q := h.rq
  exact ⟨he2, av2, vs2, ⟨B2.stays K3 (fun k hk e => hqb (e ▸ hk)), O2.stays K3 (fun k hk e => hqo (e ▸ hk)), R3, dis2, h.kl.read s, h.ko, bel2.trans (Kept.below K3 bel2.size (fun k e => e ▸ hql)), h.rq⟩⟩

theorem Tri.kept0 {w W W' : World} {p : Nat} {ev : Value} {nb fb : Nat} {l : List Tm} {p' : Nat} {ev' : Value} {nb' fb' : Nat} {lo : List Tm} {q : Nat} {av : Value} {vs : List Value} (h : Tri w W p ev nb fb l p' ev' nb' fb' lo q av vs) (K : Kept0 W W') : Tri w W' p ev nb fb l p' ev' nb' fb' lo q av vs :=
  ⟨h.b.kept0 K, h.o.kept0 K, h.r.kept K (fun _ _ _ _ _ _ _ e => e), h.dis, h.kl, h.ko, h.bel.trans (Kept.below K h.bel.size (fun _ e => e.elim)), h.rq⟩
theorem Tri.same {w W : World} {p : Nat} {ev : Value} {nb fb : Nat} {l : List Tm} {p' : Nat} {ev' : Value} {nb' fb' : Nat} {lo : List Tm} {q : Nat} {av : Value} {vs : List Value} (h : Tri w W p ev nb fb l p' ev' nb' fb' lo q av vs) :
    Calls Try.prog 19 #[.pointer (some ⟨p, 0, none⟩), av] W fun e W' => e = .returned (.bool true) ∧ Tri w W' p ev nb fb l p' ev' nb' fb' lo q av vs :=
  (same_law W w.heap.size p ev nb fb l h.b h.kl.hs w.heap.size av vs h.r.ls).mono fun _ _ hP => ⟨hP.1, h.kept0 hP.2⟩
theorem Tri.qcell {w W : World} {p : Nat} {ev : Value} {nb fb : Nat} {l : List Tm} {p' : Nat} {ev' : Value} {nb' fb' : Nat} {lo : List Tm} {q : Nat} {av : Value} {vs : List Value} (h : Tri w W p ev nb fb l p' ev' nb' fb' lo q av vs) : W.cell? ⟨q, 0, none⟩ = some av := h.r.row.cell (by omega)

/-- Texts in memory. -/
def Texts (w : World) (a : Option Addr) (ss : List ByteArray) : Prop := ss = [] ∨ ∃ b off, a = some ⟨b, off, none⟩ ∧ b < w.heap.size ∧ ∀ k s, ss[k]? = some s → w.cell? ⟨b, off + k, none⟩ = some (.string s)

/-- At the beginning. -/
theorem Tri.start (w w1 w2 : World) (p nb fb p' nb' fb' : Nat) (H1 : Bk w1 w.heap.size p (.slice none 0 0) nb fb []) (B1 : Below w.heap.size w w1) (H2 : Bk w2 w1.heap.size p' (.slice none 0 0) nb' fb' []) (B2 : Below w1.heap.size w1 w2) :
    Tri w (w2.alloc (.cells #[.slice none 0 0] 28)) p (.slice none 0 0) nb fb [] p' (.slice none 0 0) nb' fb' [] w2.heap.size (.slice none 0 0) [] := by
  have K : Kept0 w2 (w2.alloc (.cells #[.slice none 0 0] 28)) := Kept.alloc (Kept.refl _ w2) _
  have s1 := B1.size
  have s2 := B2.size
  have H2' : Bk w2 w.heap.size p' (.slice none 0 0) nb' fb' [] := ⟨H2.bank, row_base H2.rows s1, H2.nums, H2.fsts, H2.oks, H2.nodup, H2.pn, H2.pf, H2.nf, H2.ep, H2.en, H2.ef, Nat.le_trans s1 H2.bp, Nat.le_trans s1 H2.bn, Nat.le_trans s1 H2.bf, H2.small⟩
  have b12 : Below w.heap.size w w2 := B1.trans (B2.mono s1)
  refine ⟨(H1.below H1.low B2).kept0 K, H2'.kept0 K, ⟨?_, ⟨rfl, World.ownsRow_nil _ _ _ _, by simp⟩, by simp; omega⟩, fun k hk hk2 => ?_, Kp.nil, Kp.nil, b12.trans (Kept.below K b12.size (fun _ e => e.elim)), by omega⟩
  · refine World.rowIs.congr (made_row w2 #[.slice none 0 0] 28) (fun j hj => ?_)
    have : j = 0 := by simp at hj; omega
    subst this; rfl
  · have h1 := H1.foot_lt hk
    have h2 := H2.foot_ge hk2
    omega

set_option maxHeartbeats 4000000 in
set_option maxRecDepth 100000 in
theorem reads_in (w : World) (a : Option Addr) (cp : Nat) (ss : List ByteArray) (hT : Texts w a ss) (hm : ss.length ≤ maxLen) (other : ByteArray) :
    Calls Try.prog 3 #[.slice a ss.length cp, .string other] w fun e w' => e = .returned (.bool true) ∧ Below w.heap.size w w' := by
  unfold maxLen at hm
  have NEW1 := tNew_any w
  go_enter Try.func3, Try.ntmps3
  go_wp2_with (first | (go_at_call 15; refine NEW2.mono ?_; rintro e w2 ⟨p2, nb2, fb2, rfl, H2, B2⟩; have T0 := Tri.start w w1 w2 p1 nb1 fb1 p2 nb2 fb2 H1 B1 H2 B2) | (go_at_call 15; refine NEW1.mono ?_; rintro e w1 ⟨p1, nb1, fb1, rfl, H1, B1⟩; have NEW2 := tNew_any w1))
  clear NEW1 NEW2 H1 B1 H2 B2
  generalize w2.alloc (.cells #[.slice none 0 0] 28) = w3 at T0 ⊢
  generalize w2.heap.size = q at T0 ⊢
  go_loopw [8] (fun t8 W => ∃ k : Nat, k ≤ ss.length ∧ t8 = .int .i64 (k : Int) ∧ ∃ ev l ev' lo av vs, Tri w W p1 ev nb1 fb1 l p2 ev' nb2 fb2 lo q av vs) (fun t8 _ => ss.length - (intOf t8).toNat)
  case atStart => exact ⟨0, by omega, rfl, _, _, _, _, _, _, T0⟩
  case round =>
    clear T0
    obtain ⟨k, hk, rfl, ev, l, ev', lo, av, vs, T⟩ := hrel
    by_cases hk2 : k < ss.length
    · have dk : decide ((k : Int) < (ss.length : Int)) = true := decide_eq_true (by omega)
      rcases hT with e | ⟨b, off, rfl, hb, hc⟩
      · rw [e] at hk2; simp at hk2
      · have hs : ss[k]? = some ss[k] := List.getElem?_eq_getElem hk2
        have ck := hc k _ hs
        generalize ss[k] = s at ck hs
        have c1 := (T.bel.cell (p := ⟨b, off + k, none⟩) hb).trans ck
        have RO := T.readO other
        go_wp2_with (first | (go_at_call 16; refine RB.mono ?_; rintro e w5 ⟨rfl, ev5, RR, bel5⟩; have c5 := (bel5.cell (p := ⟨b, off + k, none⟩) hb).trans ck) | (go_at_call 16; refine RO.mono ?_; rintro e w4 ⟨rfl, ev4, T4⟩; have c4 := (T4.bel.cell (p := ⟨b, off + k, none⟩) hb).trans ck; have RB := T4.readB s) | (go_at_call 17; refine RR.mono ?_; rintro e w6 ⟨rfl, av6, vs6, T6⟩) | (go_at_call 18; refine (num1_any _ _).mono ?_; rintro e w9 ⟨rfl, rfl⟩; have q6 := T6.qcell; have SM := T6.same) | (go_at_call 19; refine SM2.mono ?_; rintro e w8 ⟨rfl, T8⟩) | (go_at_call 19; refine SM.mono ?_; rintro e w7 ⟨rfl, T7⟩; have q7 := T7.qcell; have SM2 := T7.same))
        exact ⟨⟨k + 1, by omega, by simp, _, _, _, _, _, _, T8⟩, by simp [intOf]; omega⟩
    · have dk : decide ((k : Int) < (ss.length : Int)) = false := decide_eq_false (by omega)
      go_wp2_with (first | (go_at_call 20; refine (alive1_any wr).mono ?_; rintro e w9 ⟨rfl, B9⟩))
      go_ret
      exact ⟨rfl, T.bel.trans (B9.mono T.bel.size)⟩

end Go.Proofs.Ytinphcnknionmaa
