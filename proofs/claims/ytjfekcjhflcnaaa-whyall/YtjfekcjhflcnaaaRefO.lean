/- TermReads' walk. -/
import Derived.Test.YtjfekcjhflcnaaaRefN
namespace Go.Proofs.Ytjfekcjhflcnaaa
open Go.RowKit Go.Maps

/-- Blocks of other types are none of a bank's. -/
theorem Bk.apart {w : World} {base p : Nat} {ev : Value} {nb fb : Nat} {l : List Tm} (h : Bk w base p ev nb fb l) {k : Nat} {c : Array Value} {T : TypeId} {fz : Nat × Nat} (hk : w.heap[k]? = some (.cells c T fz)) (h1 : T ≠ 105) (h2 : T ≠ 124) : ¬ BFoot p ev nb fb k := by
  rintro (e | e | e | e)
  · subst e
    obtain ⟨c2, h3, _⟩ := h.bank
    rw [hk] at h3
    injection h3 with h3
    injection h3 with _ h4
    exact h1 h4
  · subst e
    obtain ⟨D, ⟨es, ck, n1, _⟩, _⟩ := h.nums
    rw [hk] at n1
    cases n1
  · subst e
    obtain ⟨D, ⟨es, ck, n1, _⟩, _⟩ := h.fsts
    rw [hk] at n1
    cases n1
  · rcases h.rows.2 with ⟨e2, _⟩ | ⟨b, cap, cur, e2, _, h3, _⟩
    · rw [e2] at e; simp [Value.ownBlock] at e
    · rw [e2] at e
      simp [Value.ownBlock] at e
      subst e
      rw [hk] at h3
      injection h3 with h3
      injection h3 with _ h4
      exact h2 h4

theorem RBk.kept {w w' : World} {base q : Nat} {av : Value} {l : List Tm} {vs : List Value} {S : Nat → Prop} (h : RBk w base q av l vs) (K : Kept S w w') (hS : ∀ k c T fz, w.heap[k]? = some (.cells c T fz) → T ≠ 105 → T ≠ 124 → ¬ S k) : RBk w' base q av l vs := by
  have rowk : ∀ {e : TypeId} {sz n : Nat} {v : Value} {xs : List Value}, e ≠ 105 → e ≠ 124 → w.ownsRow base e sz v n xs → ∀ b, v.ownBlock = some b → w'.heap[b]? = w.heap[b]? := by
    intro e sz n v xs h1 h2 hr b hb
    rcases hr.2 with ⟨e2, _⟩ | ⟨b', cap, cur, e2, _, h3, _⟩
    · rw [e2] at hb; simp [Value.ownBlock] at hb
    · rw [e2] at hb
      simp [Value.ownBlock] at hb
      subst hb
      exact K.block _ (right_lt h3) (hS _ _ _ _ h3 h1 h2)
  refine ⟨h.row.of_block ?_, h.ls.blocks (rowk (by decide) (by decide) h.ls.row) (fun u hu b hb => ?_), Nat.le_trans h.bs K.size⟩
  · obtain ⟨c, h1, _⟩ := h.row
    exact K.block q (right_lt h1) (hS _ _ _ _ h1 (by decide) (by decide))
  · obtain ⟨xs, hx⟩ := h.ls.mem hu
    exact rowk (by decide) (by decide) hx b hb

/-- Two banks and the document's. -/
structure Tri (w W : World) (p : Nat) (ev : Value) (nb fb : Nat) (l : List Tm) (p' : Nat) (ev' : Value) (nb' fb' : Nat) (lo : List Tm) (q : Nat) (av : Value) (vs : List Value) : Prop where
  b : Bk W w.heap.size p ev nb fb l
  o : Bk W w.heap.size p' ev' nb' fb' lo
  r : RBk W w.heap.size q av l vs
  dis : ∀ k, BFoot p ev nb fb k → ¬ BFoot p' ev' nb' fb' k
  kl : Kp l
  ko : Kp lo
  bel : Below w.heap.size w W
  rq : w.heap.size ≤ q

theorem Bk.foot_ge {w : World} {base p : Nat} {ev : Value} {nb fb : Nat} {l : List Tm} (h : Bk w base p ev nb fb l) {k : Nat} (hk : BFoot p ev nb fb k) : base ≤ k := by
  rcases hk with e | e | e | e
  · rw [e]; exact h.bp
  · rw [e]; exact h.bn
  · rw [e]; exact h.bf
  · exact (h.rows.lt k e).1
theorem Bk.foot_lt {w : World} {base p : Nat} {ev : Value} {nb fb : Nat} {l : List Tm} (h : Bk w base p ev nb fb l) {k : Nat} (hk : BFoot p ev nb fb k) : k < w.heap.size := by
  have L := h.low
  rcases hk with e | e | e | e
  · rw [e]; exact L.p
  · rw [e]; exact L.n
  · rw [e]; exact L.f
  · exact L.e k e
/-- A bank that another's change leaves alone. -/
theorem Bk.stays {w w' : World} {base p : Nat} {ev : Value} {nb fb : Nat} {l : List Tm} {S : Nat → Prop} (h : Bk w base p ev nb fb l) (K : Kept S w w') (hS : ∀ k, BFoot p ev nb fb k → ¬ S k) : Bk w' base p ev nb fb l :=
  h.blocks (K.block p h.low.p (hS p (Or.inl rfl))) (K.block nb h.low.n (hS nb (Or.inr (Or.inl rfl)))) (K.block fb h.low.f (hS fb (Or.inr (Or.inr (Or.inl rfl))))) (fun k e => K.block k (h.low.e k e) (hS k (Or.inr (Or.inr (Or.inr e)))))

theorem foot_new {p nb fb k : Nat} {ev ev2 : Value} {n : Nat} (h : BFoot p ev2 nb fb k) (hr : ev2.ownBlock = ev.ownBlock ∨ ∀ k, ev2.ownBlock = some k → n ≤ k) : BFoot p ev nb fb k ∨ n ≤ k := by
  rcases h with e | e | e | e
  · exact Or.inl (Or.inl e)
  · exact Or.inl (Or.inr (Or.inl e))
  · exact Or.inl (Or.inr (Or.inr (Or.inl e)))
  · rcases hr with e2 | e2
    · exact Or.inl (Or.inr (Or.inr (Or.inr (e2 ▸ e))))
    · exact Or.inr (e2 k e)

theorem Tri.readO {w W : World} {p : Nat} {ev : Value} {nb fb : Nat} {l : List Tm} {p' : Nat} {ev' : Value} {nb' fb' : Nat} {lo : List Tm} {q : Nat} {av : Value} {vs : List Value} (h : Tri w W p ev nb fb l p' ev' nb' fb' lo q av vs) (s : ByteArray) :
    Calls Try.prog 16 #[.pointer (some ⟨p', 0, none⟩), .string s] W fun e W' => e = .returned (.tuple #[.int .i64 ((pRead s lo).1 : Int), .int .i64 ((pRead s lo).2.1 : Int), .int .i64 ((pRead s lo).2.2.1 : Int)]) ∧ ∃ ev2, Tri w W' p ev nb fb l p' ev2 nb' fb' (pRead s lo).2.2.2 q av vs := by
  refine (tRead_in W w.heap.size p' ev' nb' fb' lo h.o h.ko.len h.bel.size s).mono ?_
  rintro e W' ⟨he, ev2, B2, K2, R2⟩
  refine ⟨he, ev2, h.b.stays K2 h.dis, B2, h.r.kept K2 (fun k c T fz hk h1 h2 => h.o.apart hk h1 h2), fun k hk hk2 => ?_, h.kl, h.ko.read s, h.bel.trans (Kept.below K2 h.bel.size (fun k e => h.o.foot_ge e)), h.rq⟩
  rcases foot_new hk2 R2 with e | e
  · exact h.dis k hk e
  · have := h.b.foot_lt hk; omega
theorem Tri.readB {w W : World} {p : Nat} {ev : Value} {nb fb : Nat} {l : List Tm} {p' : Nat} {ev' : Value} {nb' fb' : Nat} {lo : List Tm} {q : Nat} {av : Value} {vs : List Value} (h : Tri w W p ev nb fb l p' ev' nb' fb' lo q av vs) (s : ByteArray) :
    Calls Try.prog 16 #[.pointer (some ⟨p, 0, none⟩), .string s] W fun e W' => e = .returned (.tuple #[.int .i64 ((pRead s l).1 : Int), .int .i64 ((pRead s l).2.1 : Int), .int .i64 ((pRead s l).2.2.1 : Int)]) ∧ ∃ ev2, (Calls Try.prog 17 #[.pointer (some ⟨q, 0, none⟩), .string s] W' fun e W2 => e = .returned (.tuple #[.int .i64 ((pRead s l).1 : Int), .int .i64 ((pRead s l).2.1 : Int), .int .i64 ((pRead s l).2.2.1 : Int)]) ∧ ∃ av2 vs2, Tri w W2 p ev2 nb fb (pRead s l).2.2.2 p' ev' nb' fb' lo q av2 vs2) ∧ Below w.heap.size w W' := by
  refine (tRead_in W w.heap.size p ev nb fb l h.b h.kl.len h.bel.size s).mono ?_
  rintro e W' ⟨he, ev2, B2, K2, R2⟩
  have O2 := h.o.stays K2 (fun k hk e => h.dis k e hk)
  have RR := h.r.kept K2 (fun k c T fz hk h1 h2 => h.b.apart hk h1 h2)
  have bel2 := h.bel.trans (Kept.below K2 h.bel.size (fun k e => h.b.foot_ge e))
  have dis2 : ∀ k, BFoot p ev2 nb fb k → ¬ BFoot p' ev' nb' fb' k := fun k hk hk2 => by
    rcases foot_new hk R2 with e | e
    · exact h.dis k e hk2
    · have := h.o.foot_lt hk2; omega
  refine ⟨he, ev2, ?_, bel2⟩
  refine (rRead_in W' w.heap.size q av l vs RR h.kl.good h.kl.len s).mono ?_
  rintro e W2 ⟨he2, ⟨av2, vs2, R3⟩, K3⟩
  obtain ⟨cq, hq, _⟩ := RR.row
  have hqb := B2.apart hq (by decide) (by decide)
  have hqo := O2.apart hq (by decide) (by decide)
  have hql : w.heap.size ≤ q := h.rq
  exact ⟨he2, av2, vs2, ⟨B2.stays K3 (fun k hk e => hqb (e ▸ hk)), O2.stays K3 (fun k hk e => hqo (e ▸ hk)), R3, dis2, h.kl.read s, h.ko, bel2.trans (Kept.below K3 bel2.size (fun k e => e ▸ hql)), h.rq⟩⟩

theorem Tri.kept0 {w W W' : World} {p : Nat} {ev : Value} {nb fb : Nat} {l : List Tm} {p' : Nat} {ev' : Value} {nb' fb' : Nat} {lo : List Tm} {q : Nat} {av : Value} {vs : List Value} (h : Tri w W p ev nb fb l p' ev' nb' fb' lo q av vs) (K : Kept0 W W') : Tri w W' p ev nb fb l p' ev' nb' fb' lo q av vs :=
  ⟨h.b.kept0 K, h.o.kept0 K, h.r.kept K (fun _ _ _ _ _ _ _ e => e), h.dis, h.kl, h.ko, h.bel.trans (Kept.below K h.bel.size (fun _ e => e.elim)), h.rq⟩
theorem Tri.same {w W : World} {p : Nat} {ev : Value} {nb fb : Nat} {l : List Tm} {p' : Nat} {ev' : Value} {nb' fb' : Nat} {lo : List Tm} {q : Nat} {av : Value} {vs : List Value} (h : Tri w W p ev nb fb l p' ev' nb' fb' lo q av vs) :
    Calls Try.prog 19 #[.pointer (some ⟨p, 0, none⟩), av] W fun e W' => e = .returned (.bool true) ∧ Tri w W' p ev nb fb l p' ev' nb' fb' lo q av vs :=
  (same_law W w.heap.size p ev nb fb l h.b h.kl.hs w.heap.size av vs h.r.ls).mono fun _ _ hP => ⟨hP.1, h.kept0 hP.2⟩
theorem Tri.qcell {w W : World} {p : Nat} {ev : Value} {nb fb : Nat} {l : List Tm} {p' : Nat} {ev' : Value} {nb' fb' : Nat} {lo : List Tm} {q : Nat} {av : Value} {vs : List Value} (h : Tri w W p ev nb fb l p' ev' nb' fb' lo q av vs) : W.cell? ⟨q, 0, none⟩ = some av := h.r.row.cell (by omega)

/-- Texts in memory. -/
def Texts (w : World) (a : Option Addr) (ss : List ByteArray) : Prop := ss = [] ∨ ∃ b off, a = some ⟨b, off, none⟩ ∧ b < w.heap.size ∧ ∀ k s, ss[k]? = some s → w.cell? ⟨b, off + k, none⟩ = some (.string s)

/-- At the beginning. -/
theorem Tri.start (w w1 w2 : World) (p nb fb p' nb' fb' : Nat) (H1 : Bk w1 w.heap.size p (.slice none 0 0) nb fb []) (B1 : Below w.heap.size w w1) (H2 : Bk w2 w1.heap.size p' (.slice none 0 0) nb' fb' []) (B2 : Below w1.heap.size w1 w2) :
    Tri w (w2.alloc (.cells #[.slice none 0 0] 28)) p (.slice none 0 0) nb fb [] p' (.slice none 0 0) nb' fb' [] w2.heap.size (.slice none 0 0) [] := by
  have K : Kept0 w2 (w2.alloc (.cells #[.slice none 0 0] 28)) := Kept.alloc (Kept.refl _ w2) _
  have s1 := B1.size
  have s2 := B2.size
  have H2' : Bk w2 w.heap.size p' (.slice none 0 0) nb' fb' [] := ⟨H2.bank, row_base H2.rows s1, H2.nums, H2.fsts, H2.oks, H2.nodup, H2.pn, H2.pf, H2.nf, H2.ep, H2.en, H2.ef, Nat.le_trans s1 H2.bp, Nat.le_trans s1 H2.bn, Nat.le_trans s1 H2.bf, H2.small⟩
  have b12 : Below w.heap.size w w2 := B1.trans (B2.mono s1)
  refine ⟨(H1.below H1.low B2).kept0 K, H2'.kept0 K, ⟨?_, ⟨rfl, World.ownsRow_nil _ _ _ _, by simp⟩, by simp; omega⟩, fun k hk hk2 => ?_, Kp.nil, Kp.nil, b12.trans (Kept.below K b12.size (fun _ e => e.elim)), by omega⟩
  · refine World.rowIs.congr (made_row w2 #[.slice none 0 0] 28) (fun j hj => ?_)
    have : j = 0 := by simp at hj; omega
    subst this; rfl
  · have h1 := H1.foot_lt hk
    have h2 := H2.foot_ge hk2
    omega

set_option maxHeartbeats 4000000 in
set_option maxRecDepth 100000 in
theorem reads_in (w : World) (a : Option Addr) (cp : Nat) (ss : List ByteArray) (hT : Texts w a ss) (hm : ss.length ≤ maxLen) (other : ByteArray) :
    Calls Try.prog 3 #[.slice a ss.length cp, .string other] w fun e w' => e = .returned (.bool true) ∧ Below w.heap.size w w' := by
  unfold maxLen at hm
  have NEW1 := tNew_any w
  go_enter Try.func3, Try.ntmps3
  go_wp2_with (first | (go_at_call 15; refine NEW2.mono ?_; rintro e w2 ⟨p2, nb2, fb2, rfl, H2, B2⟩; have T0 := Tri.start w w1 w2 p1 nb1 fb1 p2 nb2 fb2 H1 B1 H2 B2) | (go_at_call 15; refine NEW1.mono ?_; rintro e w1 ⟨p1, nb1, fb1, rfl, H1, B1⟩; have NEW2 := tNew_any w1))
  clear NEW1 NEW2 H1 B1 H2 B2
  generalize w2.alloc (.cells #[.slice none 0 0] 28) = w3 at T0 ⊢
  generalize w2.heap.size = q at T0 ⊢
  go_loopw [8] (fun t8 W => ∃ k : Nat, k ≤ ss.length ∧ t8 = .int .i64 (k : Int) ∧ ∃ ev l ev' lo av vs, Tri w W p1 ev nb1 fb1 l p2 ev' nb2 fb2 lo q av vs) (fun t8 _ => ss.length - (intOf t8).toNat)
  case atStart => exact ⟨0, by omega, rfl, _, _, _, _, _, _, T0⟩
  case round =>
    clear T0
    obtain ⟨k, hk, rfl, ev, l, ev', lo, av, vs, T⟩ := hrel
    by_cases hk2 : k < ss.length
    · have dk : decide ((k : Int) < (ss.length : Int)) = true := decide_eq_true (by omega)
      rcases hT with e | ⟨b, off, rfl, hb, hc⟩
      · rw [e] at hk2; simp at hk2
      · have hs : ss[k]? = some ss[k] := List.getElem?_eq_getElem hk2
        have ck := hc k _ hs
        generalize ss[k] = s at ck hs
        have c1 := (T.bel.cell (p := ⟨b, off + k, none⟩) hb).trans ck
        have RO := T.readO other
        go_wp2_with (first | (go_at_call 16; refine RB.mono ?_; rintro e w5 ⟨rfl, ev5, RR, bel5⟩; have c5 := (bel5.cell (p := ⟨b, off + k, none⟩) hb).trans ck) | (go_at_call 16; refine RO.mono ?_; rintro e w4 ⟨rfl, ev4, T4⟩; have c4 := (T4.bel.cell (p := ⟨b, off + k, none⟩) hb).trans ck; have RB := T4.readB s) | (go_at_call 17; refine RR.mono ?_; rintro e w6 ⟨rfl, av6, vs6, T6⟩) | (go_at_call 18; refine (num1_any _ _).mono ?_; rintro e w9 ⟨rfl, rfl⟩; have q6 := T6.qcell; have SM := T6.same) | (go_at_call 19; refine SM2.mono ?_; rintro e w8 ⟨rfl, T8⟩) | (go_at_call 19; refine SM.mono ?_; rintro e w7 ⟨rfl, T7⟩; have q7 := T7.qcell; have SM2 := T7.same))
        exact ⟨⟨k + 1, by omega, by simp, _, _, _, _, _, _, T8⟩, by simp [intOf]; omega⟩
    · have dk : decide ((k : Int) < (ss.length : Int)) = false := decide_eq_false (by omega)
      go_wp2_with (first | (go_at_call 20; refine (alive1_any wr).mono ?_; rintro e w9 ⟨rfl, B9⟩))
      go_ret
      exact ⟨rfl, T.bel.trans (B9.mono T.bel.size)⟩
