/- law03: CloseAll, what is held in memory. law03: CloseAll, call by call. law03: ints, num, and rows of numbers. law03: CloseAll's walk. -/
import Derived.Test.YtjfekcjhflcnaaaDcG
import Derived.Test.YtjfekcjhflcnaaaWyG
import Derived.Test.YtjfekcjhflcnaaaOrX
import Derived.Deep.QuietTactic
import Derived.Deep.CutBlock
import Derived.Deep.DeepCutAuto
namespace Go.Proofs.Ytjfekcjhflcnaaa
open Go.RowKit Go.Maps

/-- The blocks of the document's list. -/
def Doc (av : Value) (vs : List Value) (k : Nat) : Prop := av.ownBlock = some k ∨ ∃ v, v ∈ vs ∧ v.ownBlock = some k
theorem Ls.doc_lt {w : World} {base : Nat} {av : Value} {l : List Tm} {vs : List Value} (h : Ls w base av l vs) {k : Nat} (hk : Doc av vs k) : k < w.heap.size := by
  rcases hk with e | ⟨v, hv, e⟩
  · exact (h.row.lt k e).2
  · obtain ⟨i, hi, rfl⟩ := List.getElem_of_mem hv
    have hil : i < l.length := by rw [← h.len]; exact hi
    exact ((h.args i l[i] vs[i] (List.getElem?_eq_getElem hil) (List.getElem?_eq_getElem hi)).lt k e).2
theorem Ls.keep {w w' : World} {base : Nat} {av : Value} {l : List Tm} {vs : List Value} (h : Ls w base av l vs) {S : Nat → Prop} (K : Kept S w w') (hS : ∀ k, Doc av vs k → ¬ S k) : Ls w' base av l vs :=
  ⟨h.len, ownsRow_block h.row (fun k hk => K.block k (h.row.lt k hk).2 (hS k (.inl hk))), fun i t v h1 h2 => by
    have ha := h.args i t v h1 h2
    exact ownsRow_block ha (fun k hk => K.block k (ha.lt k hk).2 (hS k (.inr ⟨v, List.mem_of_getElem? h2, hk⟩)))⟩
theorem Ls.types {w : World} {base : Nat} {av : Value} {l : List Tm} {vs : List Value} (h : Ls w base av l vs) {k : Nat} (hk : Doc av vs k) : ∃ c T fz, w.heap[k]? = some (.cells c T fz) ∧ (T = 114 ∨ T = 3) := by
  have one : ∀ {e : TypeId} {sz n : Nat} {v : Value} {xs : List Value}, w.ownsRow base e sz v n xs → v.ownBlock = some k → ∃ c fz, w.heap[k]? = some (.cells c e fz) := by
    intro e sz n v xs hr hb
    rcases hr.2 with ⟨rfl, _⟩ | ⟨b', cap, cur, rfl, _, h3, _⟩
    · simp [Value.ownBlock] at hb
    · simp [Value.ownBlock] at hb
      subst hb
      exact ⟨cur, _, h3⟩
  rcases hk with e | ⟨v, hv, e⟩
  · obtain ⟨c, fz, h1⟩ := one h.row e
    exact ⟨c, _, fz, h1, .inl rfl⟩
  · obtain ⟨i, hi, rfl⟩ := List.getElem_of_mem hv
    have hil : i < l.length := by rw [← h.len]; exact hi
    obtain ⟨c, fz, h1⟩ := one (h.args i l[i] vs[i] (List.getElem?_eq_getElem hil) (List.getElem?_eq_getElem hi)) e
    exact ⟨c, _, fz, h1, .inr rfl⟩

/-- All that CloseAll holds: the bank, the document's list, two closures, the pairs that were told. -/
structure Ca (w : World) (B : Nat) (W : World) (p nb fb : Nat) (av : Value) (l : List Tm) (vs : List Value) (ev : Value) (lb : List Tm) (c o : Ks) (P Q T : List (Nat × Nat)) (tv : Value) : Prop where
  bk : Bk W w.heap.size p ev nb fb lb
  bl : lb.length ≤ 150
  ls : Ls W w.heap.size av l vs
  low : ∀ k, Doc av vs k → k < B
  cq : Cq W B l c P
  ol : Cl W B l o Q
  dis : ∀ k, c.All k → ¬ o.All k
  row : W.ownsRow B 70 2 tv T.length (pairC (pInt T))
  farC : ∀ k, tv.ownBlock = some k → ¬ c.All k
  farO : ∀ k, tv.ownBlock = some k → ¬ o.All k
  apC : ∀ k, BFoot p ev nb fb k → ¬ c.All k
  apO : ∀ k, BFoot p ev nb fb k → ¬ o.All k
  apT : ∀ k, BFoot p ev nb fb k → tv.ownBlock ≠ some k
  apD : ∀ k, BFoot p ev nb fb k → ¬ Doc av vs k
  wb : w.heap.size ≤ B
  bel : Kept0 w W

theorem Bk.keep {w w' : World} {base p : Nat} {ev : Value} {nb fb : Nat} {l : List Tm} (h : Bk w base p ev nb fb l) {S : Nat → Prop} (K : Kept S w w') (hS : ∀ k, BFoot p ev nb fb k → ¬ S k) : Bk w' base p ev nb fb l :=
  h.blocks (K.block _ (h.foot_lt (.inl rfl)) (hS _ (.inl rfl))) (K.block _ (h.foot_lt (.inr (.inl rfl))) (hS _ (.inr (.inl rfl)))) (K.block _ (h.foot_lt (.inr (.inr (.inl rfl)))) (hS _ (.inr (.inr (.inl rfl))))) (fun k e => K.block k (h.foot_lt (.inr (.inr (.inr e)))) (hS k (.inr (.inr (.inr e)))))

theorem Ca.kept0 {w : World} {B : Nat} {W W' : World} {p nb fb : Nat} {av : Value} {l : List Tm} {vs : List Value} {ev : Value} {lb : List Tm} {c o : Ks} {P Q T : List (Nat × Nat)} {tv : Value} (h : Ca w B W p nb fb av l vs ev lb c o P Q T tv) (K : Kept0 W W') : Ca w B W' p nb fb av l vs ev lb c o P Q T tv :=
  ⟨h.bk.kept0 K, h.bl, h.ls.keep K (fun _ _ e => e), h.low, h.cq.kept0 K, h.ol.kept0 K, h.dis, ownsRow_block h.row (fun k hk => K.block k (h.row.lt k hk).2 (fun e => e)), h.farC, h.farO, h.apC, h.apO, h.apT, h.apD, h.wb, h.bel.trans K⟩

/-- The first closure has moved. -/
theorem Ca.movC {w : World} {B : Nat} {W W' : World} {p nb fb : Nat} {av : Value} {l : List Tm} {vs : List Value} {ev : Value} {lb : List Tm} {c c' o : Ks} {P P' Q T : List (Nat × Nat)} {tv : Value} (h : Ca w B W p nb fb av l vs ev lb c o P Q T tv) (K : Kept c.All W W') (hc : Cq W' B l c' P') (hA : ∀ k, c'.All k → c.All k ∨ W.heap.size ≤ k) : Ca w B W' p nb fb av l vs ev lb c' o P' Q T tv := by
  have new : ∀ {R : Nat → Prop}, (∀ k, R k → ¬ c.All k) → (∀ k, R k → k < W.heap.size) → ∀ k, R k → ¬ c'.All k := fun h1 h2 k hk hA' => by
    rcases hA k hA' with e | e
    · exact h1 k hk e
    · have := h2 k hk; omega
  refine ⟨h.bk.keep K h.apC, h.bl, h.ls.keep K (fun k hk hA' => ?_), h.low, hc, h.ol.keep K (fun k hk hA' => h.dis k hA' hk), fun k hk hk2 => new (R := o.All) (fun k hk hA' => h.dis k hA' hk) (fun k hk => h.ol.all_lt hk) k hk2 hk, ownsRow_block h.row (fun k hk => K.block k (h.row.lt k hk).2 (h.farC k hk)), new h.farC (fun k hk => (h.row.lt k hk).2), h.farO, new h.apC (fun k hk => h.bk.foot_lt hk), h.apO, h.apT, h.apD, h.wb, h.bel.into K (fun k hk => .inr (Nat.le_trans h.wb (h.cq.cl.all_ge hk)))⟩
  have h1 := h.low k hk
  have h2 := h.cq.cl.all_ge hA'
  omega
/-- The second closure has moved. -/
theorem Ca.movO {w : World} {B : Nat} {W W' : World} {p nb fb : Nat} {av : Value} {l : List Tm} {vs : List Value} {ev : Value} {lb : List Tm} {c o o' : Ks} {P Q Q' T : List (Nat × Nat)} {tv : Value} (h : Ca w B W p nb fb av l vs ev lb c o P Q T tv) (K : Kept o.All W W') (ho : Cl W' B l o' Q') (hA : ∀ k, o'.All k → o.All k ∨ W.heap.size ≤ k) : Ca w B W' p nb fb av l vs ev lb c o' P Q' T tv := by
  have new : ∀ {R : Nat → Prop}, (∀ k, R k → ¬ o.All k) → (∀ k, R k → k < W.heap.size) → ∀ k, R k → ¬ o'.All k := fun h1 h2 k hk hA' => by
    rcases hA k hA' with e | e
    · exact h1 k hk e
    · have := h2 k hk; omega
  refine ⟨h.bk.keep K h.apO, h.bl, h.ls.keep K (fun k hk hA' => ?_), h.low, ⟨h.cq.cl.keep K (fun k hk hA' => h.dis k hk hA'), h.cq.past⟩, ho, new h.dis (fun k hk => h.cq.cl.all_lt hk), ownsRow_block h.row (fun k hk => K.block k (h.row.lt k hk).2 (h.farO k hk)), h.farC, new h.farO (fun k hk => (h.row.lt k hk).2), h.apC, new h.apO (fun k hk => h.bk.foot_lt hk), h.apT, h.apD, h.wb, h.bel.into K (fun k hk => .inr (Nat.le_trans h.wb (h.ol.all_ge hk)))⟩
  have h1 := h.low k hk
  have h2 := h.ol.all_ge hA'
  omega
/-- The pairs that were told have moved. -/
theorem Ca.movT {w : World} {B : Nat} {W W' : World} {p nb fb : Nat} {av : Value} {l : List Tm} {vs : List Value} {ev : Value} {lb : List Tm} {c o : Ks} {P Q T T' : List (Nat × Nat)} {tv tv' : Value} (h : Ca w B W p nb fb av l vs ev lb c o P Q T tv) (K : Kept (fun k => tv.ownBlock = some k) W W') (hr : W'.ownsRow B 70 2 tv' T'.length (pairC (pInt T'))) (hl : tv'.ownBlock = tv.ownBlock ∨ ∀ k, tv'.ownBlock = some k → W.heap.size ≤ k) : Ca w B W' p nb fb av l vs ev lb c o P Q T' tv' := by
  have new : ∀ {R : Nat → Prop}, (∀ k, tv.ownBlock = some k → ¬ R k) → (∀ k, R k → k < W.heap.size) → ∀ k, tv'.ownBlock = some k → ¬ R k := fun h1 h2 k hk hR => by
    rcases hl with e | e
    · exact h1 k (e ▸ hk) hR
    · have := h2 k hR; have := e k hk; omega
  refine ⟨h.bk.keep K h.apT, h.bl, h.ls.keep K (fun k hk e => ?_), h.low, ⟨h.cq.cl.keep K (fun k hk e => h.farC k e hk), h.cq.past⟩, h.ol.keep K (fun k hk e => h.farO k e hk), h.dis, hr, new h.farC (fun k hk => h.cq.cl.all_lt hk), new h.farO (fun k hk => h.ol.all_lt hk), h.apC, h.apO, fun k hk e => new (R := BFoot p ev nb fb) (fun k hk hb => h.apT k hb hk) (fun k hk => h.bk.foot_lt hk) k e hk, h.apD, h.wb, h.bel.into K (fun k hk => .inr (Nat.le_trans h.wb (h.row.lt k hk).1))⟩
  have h1 := h.low k hk
  have h2 := (h.row.lt k e).1
  omega
/-- The bank has moved. -/
theorem Ca.movB {w : World} {B : Nat} {W W' : World} {p nb fb : Nat} {av : Value} {l : List Tm} {vs : List Value} {ev ev' : Value} {lb lb' : List Tm} {c o : Ks} {P Q T : List (Nat × Nat)} {tv : Value} (h : Ca w B W p nb fb av l vs ev lb c o P Q T tv) (K : Kept (BFoot p ev nb fb) W W') (hb : Bk W' w.heap.size p ev' nb fb lb') (hbl : lb'.length ≤ 150) (hl : ev'.ownBlock = ev.ownBlock ∨ ∀ k, ev'.ownBlock = some k → W.heap.size ≤ k) : Ca w B W' p nb fb av l vs ev' lb' c o P Q T tv := by
  have new : ∀ {R : Nat → Prop}, (∀ k, BFoot p ev nb fb k → ¬ R k) → (∀ k, R k → k < W.heap.size) → ∀ k, BFoot p ev' nb fb k → ¬ R k := fun h1 h2 k hk hR => by
    rcases hk with e | e | e | e
    · exact h1 k (.inl e) hR
    · exact h1 k (.inr (.inl e)) hR
    · exact h1 k (.inr (.inr (.inl e))) hR
    · rcases hl with e2 | e2
      · exact h1 k (.inr (.inr (.inr (e2 ▸ e)))) hR
      · have := h2 k hR; have := e2 k e; omega
  exact ⟨hb, hbl, h.ls.keep K (fun k hk e => h.apD k e hk), h.low, ⟨h.cq.cl.keep K (fun k hk e => h.apC k e hk), h.cq.past⟩, h.ol.keep K (fun k hk e => h.apO k e hk), h.dis, ownsRow_block h.row (fun k hk => K.block k (h.row.lt k hk).2 (fun e => h.apT k e hk)), h.farC, h.farO, new h.apC (fun k hk => h.cq.cl.all_lt hk), new h.apO (fun k hk => h.ol.all_lt hk), new (R := fun k => tv.ownBlock = some k) h.apT (fun k hk => (h.row.lt k hk).2), new h.apD (fun k hk => h.ls.doc_lt hk), h.wb, h.bel.into K (fun k hk => .inr (h.bk.foot_ge hk))⟩

end Go.Proofs.Ytjfekcjhflcnaaa

namespace Go.Proofs.Ytjfekcjhflcnaaa
open Go.RowKit Go.Maps

theorem Prw.of_rowE {w : World} {base : Nat} {e : TypeId} {v : Value} {ps : List (Int × Int)} (h : w.ownsRow base e 2 v ps.length (pairC ps)) : ∃ a cap, v = .slice a ps.length cap ∧ Prw w a ps := by
  rcases h.2 with ⟨e1, e2⟩ | ⟨g, cap, cur, e1, _⟩
  · have : ps = [] := List.length_eq_zero_iff.1 e2
    subst this
    exact ⟨none, 0, e1, fun k x hk => by simp at hk⟩
  · subst e1
    refine ⟨_, _, rfl, fun k x hk => ?_⟩
    obtain ⟨g1, g2⟩ := pairC_get ps k x hk
    have hkl := (List.getElem?_eq_some_iff.1 hk).1
    have c1 := h.cellAt (k * 2) (by omega)
    have c2 := h.cellAt (k * 2 + 1) (by omega)
    exact ⟨g, 0, rfl, (h.lt g (by simp [Value.ownBlock])).2, by rw [Nat.zero_add, c1, g1], by rw [Nat.zero_add, c2, g2]⟩
theorem pInt_len (P : List (Nat × Nat)) : (pInt P).length = P.length := by simp [pInt]

theorem pRead_len (s : ByteArray) (l : List Tm) (hl : l.length ≤ 150) : (pRead s l).2.2.2.length ≤ 150 := by
  unfold pRead pWhole
  split
  · exact hl
  · split
    · exact hl
    · split
      · exact hl
      · split
        · exact hl
        · next h => exact Nat.le_of_not_lt h

theorem Ca.other {w : World} {B : Nat} {W : World} {p nb fb : Nat} {av : Value} {l : List Tm} {vs : List Value} {ev : Value} {lb : List Tm} {c o : Ks} {P Q T : List (Nat × Nat)} {tv : Value} (h : Ca w B W p nb fb av l vs ev lb c o P Q T tv) (a b : Int) (hn : (Q.length + 1) * 8 ≤ 140737488355328) :
    Calls Try.prog 39 #[.pointer (some ⟨o.pc, 0, none⟩), .int .i64 a, .int .i64 b] W fun e W' => (∃ x, e = .returned (.int .i64 x)) ∧ ∃ (o' : Ks) (Q' : List (Nat × Nat)), o'.pc = o.pc ∧ Q'.length ≤ Q.length + 1 ∧ Ca w B W' p nb fb av l vs ev lb c o' P Q' T tv ∧ Kept o.All W W' := by
  refine (kMerge_in W B l o Q h.ol a b hn).mono ?_
  rintro e W' ⟨he, o', O', K, hp, hA⟩
  exact ⟨⟨_, he⟩, o', _, hp, mergeP_len l Q a b, h.movO (Kept.mono K (fun _ _ e => e.all)) O' hA, Kept.mono K (fun _ _ e => e.all)⟩
theorem Ca.tell {w : World} {B : Nat} {W : World} {p nb fb : Nat} {av : Value} {l : List Tm} {vs : List Value} {ev : Value} {lb : List Tm} {c o : Ks} {P Q T : List (Nat × Nat)} {tv : Value} (h : Ca w B W p nb fb av l vs ev lb c o P Q T tv) (a b : Int) (hn : (P.length + 1) * 8 ≤ 140737488355328) :
    Calls Try.prog 39 #[.pointer (some ⟨c.pc, 0, none⟩), .int .i64 a, .int .i64 b] W fun e W' => e = .returned (.int .i64 (mergeE l a b)) ∧ ∃ c' : Ks, c'.pc = c.pc ∧ Ca w B W' p nb fb av l vs ev lb c' o (mergeP l P a b) Q T tv ∧ Kept c.All W W' := by
  refine (qMerge_in W B l c P h.cq a b hn).mono ?_
  rintro e W' ⟨he, c', C', K, hp, hA⟩
  exact ⟨he, c', hp, h.movC (Kept.mono K (fun _ _ e => e.all)) C' hA, Kept.mono K (fun _ _ e => e.all)⟩
theorem Ca.undo {w : World} {B : Nat} {W : World} {p nb fb : Nat} {av : Value} {l : List Tm} {vs : List Value} {ev : Value} {lb : List Tm} {c o : Ks} {P Q T : List (Nat × Nat)} {tv : Value} (h : Ca w B W p nb fb av l vs ev lb c o P Q T tv) (m : Int) :
    Calls Try.prog 42 #[.pointer (some ⟨c.pc, 0, none⟩), .int .i64 m] W fun e W' => e = .returned (.bool (undoB P m)) ∧ ∃ c' : Ks, c'.pc = c.pc ∧ Ca w B W' p nb fb av l vs ev lb c' o (undoP P m) Q T tv ∧ Kept c.All W W' := by
  refine (qUndo_in W B l c P h.cq m).mono ?_
  rintro e W' ⟨he, c', C', K, hp, hA⟩
  exact ⟨he, c', hp, h.movC (Kept.mono K (fun _ _ e => e.all)) C' (fun k hk => .inl (hA k hk)), Kept.mono K (fun _ _ e => e.all)⟩
theorem Ca.read {w : World} {B : Nat} {W : World} {p nb fb : Nat} {av : Value} {l : List Tm} {vs : List Value} {ev : Value} {lb : List Tm} {c o : Ks} {P Q T : List (Nat × Nat)} {tv : Value} (h : Ca w B W p nb fb av l vs ev lb c o P Q T tv) (s : ByteArray) :
    Calls Try.prog 16 #[.pointer (some ⟨p, 0, none⟩), .string s] W fun e W' => (∃ x y z, e = .returned (.tuple #[.int .i64 x, .int .i64 y, .int .i64 z])) ∧ ∃ ev' lb', Ca w B W' p nb fb av l vs ev' lb' c o P Q T tv := by
  refine (tRead_in W w.heap.size p ev nb fb lb h.bk h.bl h.bel.size s).mono ?_
  rintro e W' ⟨he, ev', B', K, hl⟩
  exact ⟨⟨_, _, _, he⟩, ev', _, h.movB K B' (pRead_len s lb h.bl) hl⟩

/-- A pair is noted. -/
theorem Ca.note {w : World} {B : Nat} {W wa w1 : World} {p nb fb : Nat} {av : Value} {l : List Tm} {vs : List Value} {ev : Value} {lb : List Tm} {c o : Ks} {P Q T : List (Nat × Nat)} {tv v' : Value} (h : Ca w B W p nb fb av l vs ev lb c o P Q T tv) (K0 : Kept0 W wa) {a b : Nat}
    (hown : w1.ownsRow B 70 2 v' (T.length + 1) (pairC (pInt T) ++ [.int .i64 (a : Int), .int .i64 (b : Int)])) (hgrow : wa.grownBy w1 tv.ownBlock) (hloc : v'.ownBlock = tv.ownBlock ∨ ∀ k, v'.ownBlock = some k → wa.heap.size ≤ k) : Ca w B w1 p nb fb av l vs ev lb c o P Q (T ++ [(a, b)]) v' := by
  refine h.movT (Kept.grown (Kept.mono K0 (fun _ _ e => e.elim)) hgrow (fun _ e => e)) ?_ (hloc.imp id (fun e k hk => Nat.le_trans K0.size (e k hk)))
  have e : pInt (T ++ [(a, b)]) = pInt T ++ [((a : Int), (b : Int))] := by simp [pInt]
  rw [List.length_append, e, pairC_snoc]
  exact hown
theorem pairC_take (ps : List (Int × Int)) (m : Nat) : pairC (ps.take m) = (pairC ps).take (m * 2) := by
  induction ps generalizing m with
  | nil => simp [pairC]
  | cons x xs ih =>
    cases m with
    | zero => simp [pairC]
    | succ m =>
      have e : pairC (x :: xs) = .int .i64 x.1 :: .int .i64 x.2 :: pairC xs := rfl
      have e2 : pairC (x :: xs.take m) = .int .i64 x.1 :: .int .i64 x.2 :: pairC (xs.take m) := rfl
      rw [List.take_succ_cons, e, e2, ih, show (m + 1) * 2 = m * 2 + 1 + 1 by omega, List.take_succ_cons, List.take_succ_cons]
/-- Pairs are taken back. -/
theorem Ca.cut {w : World} {B : Nat} {W : World} {p nb fb : Nat} {av : Value} {l : List Tm} {vs : List Value} {ev : Value} {lb : List Tm} {c o : Ks} {P Q T : List (Nat × Nat)} {ta : Option Addr} {tc : Nat} (h : Ca w B W p nb fb av l vs ev lb c o P Q T (.slice ta T.length tc)) (m : Nat) (hm : m ≤ T.length) : Ca w B W p nb fb av l vs ev lb c o P Q (T.take m) (.slice ta m tc) := by
  have e : (T.take m).length = m := by rw [List.length_take]; omega
  have e2 : pInt (T.take m) = (pInt T).take m := by simp [pInt, List.map_take]
  refine h.movT (Kept.refl _ W) ?_ (.inl (by cases ta <;> rfl))
  rw [e, e2, pairC_take]
  rcases h.row.2 with ⟨e1, e3⟩ | ⟨g, cap, cur, e1, _⟩
  · have hT : T = [] := List.length_eq_zero_iff.1 e3
    subst hT
    have : m = 0 := by simpa using hm
    subst this
    have e5 : Value.slice ta 0 tc = .slice none 0 0 := e1
    rw [e5]
    exact World.ownsRow_nil _ _ _ _
  · simp only [Value.slice.injEq] at e1
    obtain ⟨rfl, _, _⟩ := e1
    exact ownsRow_cut h.row rfl hm

theorem Ca.forms {w : World} {B : Nat} {W : World} {p nb fb : Nat} {av : Value} {l : List Tm} {vs : List Value} {ev : Value} {lb : List Tm} {c o : Ks} {P Q T : List (Nat × Nat)} {tv : Value} (h : Ca w B W p nb fb av l vs ev lb c o P Q T tv) : ∃ ta tc, tv = .slice ta T.length tc := row_form' h.row

/-- The document's answer is the program's. -/
theorem Ca.closed {w : World} {B : Nat} {W : World} {p nb fb : Nat} {aa : Option Addr} {ac : Nat} {l : List Tm} {vs : List Value} {ev : Value} {lb : List Tm} {c o : Ks} {P Q : List (Nat × Nat)} {ta : Option Addr} {tc : Nat} (h : Ca w B W p nb fb (.slice aa l.length ac) l vs ev lb c o P Q P (.slice ta P.length tc)) (hb : Cc.Bd l) (hl : l.length ≤ 150) (hr : P.length ≤ 8796093022208) :
    Calls Try.prog 43 #[.slice aa l.length ac, .slice ta P.length tc] W fun e w' => ∃ va vc, e = .returned (.slice va l.length vc) ∧ w'.ownsRow W.heap.size 3 1 (.slice va l.length vc) l.length (natC (lows l c.z.g)) ∧ Kept0 W w' := by
  have hrow := h.row
  rw [← pInt_len] at hrow
  obtain ⟨a2, c2, e2, hP⟩ := Prw.of_rowE hrow
  rw [pInt_len] at e2
  cases e2
  refine (closed_in W w.heap.size aa ac l vs h.ls hb hl ta tc P hP (fun p hp => ?_) hr).mono ?_
  · have := h.cq.cl.un.inv.tld p hp
    exact ⟨this.1, this.2.1⟩
  · rintro e w' ⟨v, s, rfl, R, J, D, K⟩
    obtain ⟨va, vc, rfl⟩ := row_form' R
    refine ⟨va, vc, rfl, ?_, K⟩
    have e3 : intsC (Uf.los l.length s.1) = natC (lows l c.z.g) := by
      show (Uf.los l.length s.1).map _ = (lows l c.z.g).map _
      have e4 : Uf.los l.length s.1 = lows l c.z.g := by
        unfold Uf.los lows
        exact List.map_congr_left (fun i hi => J.least hb D h.cq.cl (List.mem_range.1 hi))
      rw [e4]
    rw [← e3]
    exact R

end Go.Proofs.Ytjfekcjhflcnaaa

namespace Go.Proofs.Ytjfekcjhflcnaaa
open Go.RowKit Go.Maps

theorem rowIs_owns {W : World} {b n : Nat} {f : Nat → Nat} (h : W.rowIs b 3 n (fun i => .int .i64 (f i : Int))) (hn : n ≤ maxLen) : W.ownsRow b 3 1 (.slice (some ⟨b, 0, none⟩) n n) n (natC ((List.range n).map f)) := by
  obtain ⟨cur, h1, h2, h3⟩ := h
  refine ⟨by simp [natC], .inr ⟨b, n, cur, rfl, Nat.le_refl _, h1, Nat.le_refl _, hn, by rw [h2, Nat.mul_one], ?_⟩⟩
  rw [Nat.mul_one]
  apply List.ext_getElem?
  intro i
  by_cases hi : i < n
  · have := h3 i hi
    rw [List.getElem?_take_of_lt hi, natC_get]
    simp [hi, this]
  · rw [List.getElem?_eq_none (by rw [List.length_take]; omega), List.getElem?_eq_none (by simp [natC]; omega)]

set_option maxHeartbeats 1000000 in
theorem num_in (w : World) (a : Int) : Calls Try.prog 41 #[.int .i64 a] w fun e w' => e = .returned (.int .i64 a) ∧ w = w' := by
  go_enter Try.func41, Try.ntmps41
  go_wp2
  go_ret
  exact ⟨rfl, rfl⟩

set_option maxHeartbeats 1000000 in
set_option maxRecDepth 100000 in
theorem ints3_in (w : World) (B1 B2 : Nat) (a1 a2 : Option Addr) (c1 c2 : Nat) (xs : List Nat) (h1 : w.ownsRow B1 3 1 (.slice a1 xs.length c1) xs.length (natC xs)) (h2 : w.ownsRow B2 3 1 (.slice a2 xs.length c2) xs.length (natC xs)) (hn : xs.length ≤ 1000) :
    Calls Try.prog 45 #[.slice a1 xs.length c1, .slice a2 xs.length c2] w fun e w' => e = .returned (.bool true) ∧ Kept0 w w' := by
  have cell : ∀ {B : Nat} {a : Option Addr} {c : Nat}, w.ownsRow B 3 1 (.slice a xs.length c) xs.length (natC xs) → ∀ k, k < xs.length → ∃ g, a = some ⟨g, 0, none⟩ ∧ ∀ W, Kept0 w W → W.cell? ⟨g, k, none⟩ = some (.int .i64 ((xs[k]?.getD 0 : Nat) : Int)) := by
    intro B a c h k hk
    rcases h.2 with ⟨_, e2⟩ | ⟨g, c9, cur, e', _⟩
    · omega
    · simp only [Value.slice.injEq] at e'
      obtain ⟨rfl, _, _⟩ := e'
      refine ⟨g, rfl, fun W K => ?_⟩
      have := (ownsRow_block h (fun j hj => K.block j (h.lt j hj).2 (fun e => e))).cellAt k (by omega)
      rw [natC_get, List.getElem?_eq_getElem hk] at this
      rw [List.getElem?_eq_getElem hk]
      exact this
  have C1 : Hid (∀ k, k < xs.length → ∃ g, a1 = some ⟨g, 0, none⟩ ∧ ∀ W, Kept0 w W → W.cell? ⟨g, k, none⟩ = some (.int .i64 ((xs[k]?.getD 0 : Nat) : Int))) := cell h1
  have C2 : Hid (∀ k, k < xs.length → ∃ g, a2 = some ⟨g, 0, none⟩ ∧ ∀ W, Kept0 w W → W.cell? ⟨g, k, none⟩ = some (.int .i64 ((xs[k]?.getD 0 : Nat) : Int))) := cell h2
  clear cell h1 h2
  go_enter Try.func45, Try.ntmps45
  go_wp2_with fail
  go_loopw [5] (fun t5 W => ∃ k : Nat, k ≤ xs.length ∧ t5 = .int .i64 (k : Int) ∧ Kept0 w W) (fun t5 _ => xs.length - (intOf t5).toNat)
  case atStart => exact ⟨0, by omega, rfl, Kept.refl _ _⟩
  case round =>
    obtain ⟨k, hk, rfl, K⟩ := hrel
    by_cases hk2 : k < xs.length
    · have dk : decide ((k : Int) < (xs.length : Int)) = true := decide_eq_true (by omega)
      obtain ⟨g1, rfl, x1⟩ := C1.out k hk2
      obtain ⟨g2, rfl, x2⟩ := C2.out k hk2
      have y1 := x1 wr K
      have y2 := x2 wr K
      have HK : Hid _ := K
      clear K x1 x2
      generalize xs[k]?.getD 0 = z at *
      go_wp2_with fail
      go_quiet (fail)
      go_wp2_with fail
      exact ⟨⟨k + 1, by omega, by simp, HK.out.drewN _⟩, by simp [intOf]; omega⟩
    · have dk : decide ((k : Int) < (xs.length : Int)) = false := decide_eq_false (by omega)
      go_wp2_with fail
      go_ret
      exact ⟨rfl, K⟩

end Go.Proofs.Ytjfekcjhflcnaaa

namespace Go.Proofs.Ytjfekcjhflcnaaa
open Go.RowKit Go.Maps

theorem Ca.start {w w1 w2 w3 : World} {p nb fb : Nat} {ev : Value} {l : List Tm} {q : Nat} {av : Value} {vs : List Value} (D : Duo w w1 p ev nb fb l q av vs) {c o : Ks} (C0 : Cl w2 w1.heap.size l c []) (K2 : Kept0 w1 w2) (D0 : Cl w3 w2.heap.size l o []) (K3 : Kept0 w2 w3) : Ca w w1.heap.size w3 p nb fb av l vs ev l c o [] [] [] (.slice none 0 0) := by
  have K := K2.trans K3
  refine ⟨D.b.kept0 K, D.kl.len, D.r.ls.keep K (fun _ _ e => e), fun k hk => D.r.ls.doc_lt hk, (C0.kept0 K3).fresh, D0.base K2.size, fun k hk hk2 => ?_, World.ownsRow_nil _ _ _ _, fun k hk => by simp [Value.ownBlock] at hk, fun k hk => by simp [Value.ownBlock] at hk, fun k hk hA => ?_, fun k hk hA => ?_, fun k _ e => by simp [Value.ownBlock] at e, fun k hk hD => ?_, D.bel.size, (below_kept0 D.bel).trans K⟩
  · have h1 := C0.all_lt hk; have h2 := D0.all_ge hk2; omega
  · have h1 := D.b.foot_lt hk; have h2 := C0.all_ge hA; omega
  · have h1 := D.b.foot_lt hk; have h2 := D0.all_ge hA; have h3 := K2.size; omega
  · obtain ⟨cc, T, fz, h1, h2⟩ := D.r.ls.types hD
    refine D.b.apart h1 ?_ ?_ hk
    · rcases h2 with e | e <;> rw [e] <;> decide
    · rcases h2 with e | e <;> rw [e] <;> decide

/-- A box of three stays where it lay. -/
theorem box3 {W W' : World} {S : Nat → Prop} (K : Kept S W W') {b : Nat} (hb : ¬ S b) {u0 u1 u2 : Value} (h : W.cell? ⟨b, 0, none⟩ = some u0 ∧ W.cell? ⟨b, 1, none⟩ = some u1 ∧ W.cell? ⟨b, 2, none⟩ = some u2) : W'.cell? ⟨b, 0, none⟩ = some u0 ∧ W'.cell? ⟨b, 1, none⟩ = some u1 ∧ W'.cell? ⟨b, 2, none⟩ = some u2 := by
  have e : ∀ o, W'.cell? ⟨b, o, none⟩ = W.cell? ⟨b, o, none⟩ := fun o => World.cell?_of_block (K.block b (World.block_lt_of_cell? W _ h.1) hb)
  rw [e, e, e]
  exact h

set_option maxHeartbeats 8000000 in
set_option maxRecDepth 100000 in
theorem closeAll_in (w : World) (a1 a2 : Option Addr) (cp1 cp2 : Nat) (ss : List ByteArray) (ops : List (Int × Int × Int)) (hT : Texts w a1 ss) (hm : ss.length ≤ maxLen) (hS : Scr w a2 ops) (hr : ops.length * 24 ≤ 140737488351232) (x y : Int) :
    Calls Try.prog 8 #[.slice a1 ss.length cp1, .slice a2 ops.length cp2, .int .i64 x, .int .i64 y] w fun e w' => e = .returned (.bool true) ∧ Below w.heap.size w w' := by
  have LD := load_in w a1 cp1 ss hT hm
  have hob : ops.length ≤ 5864062014805 := by omega
  clear hr
  go_enter Try.func8, Try.ntmps8
  go_wp2_with (first | (go_at_call 37; refine LD.mono ?_; rintro e w1 ⟨p, ev, nb, fb, l, q, av, vs, rfl, D⟩; have N1 := kNew_in w1 w.heap.size p ev nb fb l D.b D.bd D.kl.len; obtain ⟨aa, ac, hav⟩ := D.r.ls.form; subst hav) | (go_at_call 38; refine N2.mono ?_; rintro e w3 ⟨o, rfl, D0, K3⟩) | (go_at_call 38; refine N1.mono ?_; rintro e w2 ⟨c, rfl, C0, K2⟩; have N2 := kNew_in w2 w.heap.size p ev nb fb l (D.b.kept0 K2) D.bd D.kl.len; clear N1))
  have CA0 := Ca.start D C0 K2 D0 K3
  have hlen : l.length ≤ 150 := D.kl.len
  have hbd : Hid (Cc.Bd l) := D.bd
  have HS : Hid (∀ W, Kept0 w W → ∀ (k : Nat) (x : Int × Int × Int), ops[k]? = some x → ∃ b off, a2 = some ⟨b, off, none⟩ ∧ W.cell? ⟨b, off + k * 3, none⟩ = some (.int .i64 x.1) ∧ W.cell? ⟨b, off + k * 3 + 1, none⟩ = some (.int .i64 x.2.1) ∧ W.cell? ⟨b, off + k * 3 + 2, none⟩ = some (.int .i64 x.2.2)) := fun W K k x hx => by
    obtain ⟨b, off, rfl, hb, x0, x1, x2⟩ := hS k x hx
    have e : ∀ o, W.cell? ⟨b, o, none⟩ = w.cell? ⟨b, o, none⟩ := fun o => World.cell?_of_block (K.block b hb (fun e => e))
    exact ⟨b, off, rfl, by rw [e]; exact x0, by rw [e]; exact x1, by rw [e]; exact x2⟩
  clear LD N2 C0 D0 K2 K3 D hT hm hS
  generalize w1.heap.size = B at *
  obtain ⟨i0, hi0, hz0, hz1, hz2⟩ := info_parts (show (Try.prog.info? 70).map (fun i => (i.zero, i.size, i.bytes)) = some (some (.agg #[.int .i64 0, .int .i64 0]), 2, 16) by kernel_rfl)
  go_loopw [13, 14] (fun t13 t14 W => ∃ (k : Nat) (P Q : List (Nat × Nat)) (c' o' : Ks) (ev : Value) (lb : List Tm), k ≤ ops.length ∧ t14 = .int .i64 (k : Int) ∧ c'.pc = c.pc ∧ o'.pc = o.pc ∧ Ca w B W p nb fb (.slice aa l.length ac) l vs ev lb c' o' P Q P t13 ∧ Hid (P.length ≤ k ∧ Q.length ≤ k)) (fun _ t14 _ => ops.length - (intOf t14).toNat)
  case atStart => exact ⟨0, [], [], c, o, ev, l, Nat.zero_le _, rfl, rfl, rfl, CA0, Nat.le_refl _, Nat.le_refl _⟩
  case round =>
    clear CA0
    obtain ⟨k, P, Q, c', o', ev, lb, hk, rfl, hpc, hpo, CA, hPQ⟩ := hrel
    obtain ⟨ta, tc, htv⟩ := CA.forms
    subst htv
    by_cases hk2 : k < ops.length
    · have dk : decide ((k : Int) < (ops.length : Int)) = true := decide_eq_true (by omega)
      have hx : ops[k]? = some ops[k] := List.getElem?_eq_getElem hk2
      generalize hok : ops[k] = z at hx
      clear hok
      obtain ⟨xk, xa, xb⟩ := z
      obtain ⟨b, off, rfl, y0, y1, y2⟩ := HS.out wr CA.bel k _ hx
      have KA : Kept0 wr (wr.alloc (.cells #[.int .i64 xk, .int .i64 xa, .int .i64 xb] 66)) := (Kept.refl _ wr).alloc _
      have RA := made_row wr #[.int .i64 xk, .int .i64 xa, .int .i64 xb] 66
      have CA2 := CA.kept0 KA
      have hcl : ∀ k, c'.All k → k < wr.heap.size := fun k hk => CA.cq.cl.all_lt hk
      have hol : ∀ k, o'.All k → k < wr.heap.size := fun k hk => CA.ol.all_lt hk
      have OM : Calls Try.prog 39 #[.pointer (some ⟨o.pc, 0, none⟩), .int .i64 xb, .int .i64 0] (wr.alloc (.cells #[.int .i64 xk, .int .i64 xa, .int .i64 xb] 66)) fun e W' => (∃ x, e = .returned (.int .i64 x)) ∧ ∃ (o4 : Ks) (Q4 : List (Nat × Nat)), o4.pc = o.pc ∧ Q4.length ≤ k + 1 ∧ Ca w B W' p nb fb (.slice aa l.length ac) l vs ev lb c' o4 P Q4 P (.slice ta P.length tc) ∧
          (W'.cell? ⟨wr.heap.size, 0, none⟩ = some (.int .i64 xk) ∧ W'.cell? ⟨wr.heap.size, 1, none⟩ = some (.int .i64 xa) ∧ W'.cell? ⟨wr.heap.size, 2, none⟩ = some (.int .i64 xb)) := by
        rw [← hpo]
        refine (CA2.other xb 0 (by have := hPQ.out.2; omega)).mono ?_
        rintro e W' ⟨he, o4, Q4, h1, h2, h3, K⟩
        refine ⟨he, o4, Q4, h1, by have := hPQ.out.2; omega, h3, box3 K (fun e => Nat.lt_irrefl _ (hol _ e)) ⟨RA.cell (i := 0) (by simp), RA.cell (i := 1) (by simp), RA.cell (i := 2) (by simp)⟩⟩
      have r0 : (wr.alloc (.cells #[.int .i64 xk, .int .i64 xa, .int .i64 xb] 66)).cell? ⟨wr.heap.size, 2, none⟩ = some (.int .i64 xb) := RA.cell (i := 2) (by simp)
      clear CA CA2 KA RA hx hol
      go_upto_block 2 with (go_at_call 39; refine OM.mono ?_; rintro e w4 ⟨⟨x4, rfl⟩, o4, Q4, ho4, hq4, CA4, z0, z1, z2⟩)
      clear OM r0 y0 y1 y2
      generalize hxb : wr.heap.size = bx at *
      go_cut [13] (fun v13 wx => ∃ (P' : List (Nat × Nat)) (c5 : Ks) (ev5 : Value) (lb5 : List Tm), c5.pc = c.pc ∧ Ca w B wx p nb fb (.slice aa l.length ac) l vs ev5 lb5 c5 o4 P' Q4 P' v13 ∧ Hid (P'.length ≤ k + 1))
      case first =>
        have WIN : Hid (∀ (W : World) (a : Int) (B : Bool), inB l.length a = B → Calls Try.prog 40 #[.int .i64 a, .slice aa l.length ac] W fun e w' => e = .returned (.bool B) ∧ W = w') := fun W a B hB => by
          rw [← hB]
          exact within_in W a aa l.length ac
        have hpk := hPQ.out.1
        by_cases h0 : xk = 0
        · have d0 : (xk == 0) = true := by rw [h0]; rfl
          clear h0
          have TM : Calls Try.prog 39 #[.pointer (some ⟨c.pc, 0, none⟩), .int .i64 xa, .int .i64 xb] w4 fun e W' => e = .returned (.int .i64 (mergeE l xa xb)) ∧ ∃ c5 : Ks, c5.pc = c.pc ∧ Ca w B W' p nb fb (.slice aa l.length ac) l vs ev lb c5 o4 (mergeP l P xa xb) Q4 P (.slice ta P.length tc) ∧
              (W'.cell? ⟨bx, 0, none⟩ = some (.int .i64 xk) ∧ W'.cell? ⟨bx, 1, none⟩ = some (.int .i64 xa) ∧ W'.cell? ⟨bx, 2, none⟩ = some (.int .i64 xb)) := by
            rw [← hpc]
            refine (CA4.tell xa xb (by omega)).mono ?_
            rintro e W' ⟨he, c5, h1, h2, K⟩
            exact ⟨he, c5, h1, h2, box3 K (fun e => Nat.lt_irrefl _ (hcl _ e)) ⟨z0, z1, z2⟩⟩
          cases ha : inB l.length xa
          · have WA := fun W => WIN.out W xa false ha
            have e1 : mergeE l xa xb = 7 := by simp [mergeE, ha]
            have e2 : mergeP l P xa xb = P := by simp [mergeP, ha]
            rw [e1, e2] at TM
            clear CA4 hcl hpc WIN ha e1 e2
            go_wp2_with (first | (go_at_call 39; refine TM.mono ?_; rintro e w5 ⟨rfl, c5, hc5, CA5, u0, u1, u2⟩) | (go_at_call 40; refine (WA _).mono ?_; rintro e w6 ⟨rfl, rfl⟩) | (go_at_call 41; refine (num_in _ _).mono ?_; rintro e w6 ⟨rfl, rfl⟩))
            go_meet
            case rel => exact ⟨P, c5, ev, lb, hc5, CA5, by show _ ≤ _; omega⟩
          · have WA := fun W => WIN.out W xa true ha
            cases hb : inB l.length xb
            · have WB : Hid (∀ W, Calls Try.prog 40 #[.int .i64 xb, .slice aa l.length ac] W fun e w' => e = .returned (.bool false) ∧ W = w') := fun W => WIN.out W xb false hb
              have e1 : mergeE l xa xb = 7 := by simp [mergeE, hb]
              have e2 : mergeP l P xa xb = P := by simp [mergeP, hb]
              rw [e1, e2] at TM
              clear CA4 hcl hpc WIN ha hb e1 e2
              go_wp2_with (first | (go_at_call 39; refine TM.mono ?_; rintro e w5 ⟨rfl, c5, hc5, CA5, u0, u1, u2⟩) | (go_at_call 40; refine (WB1 _).mono ?_; rintro e w6 ⟨rfl, rfl⟩) | (go_at_call 40; refine (WA _).mono ?_; rintro e w6 ⟨rfl, rfl⟩; have WB1 := WB.out; clear WA) | (go_at_call 41; refine (num_in _ _).mono ?_; rintro e w6 ⟨rfl, rfl⟩))
              go_meet
              case rel => exact ⟨P, c5, ev, lb, hc5, CA5, by show _ ≤ _; omega⟩
            · have WB : Hid (∀ W, Calls Try.prog 40 #[.int .i64 xb, .slice aa l.length ac] W fun e w' => e = .returned (.bool true) ∧ W = w') := fun W => WIN.out W xb true hb
              obtain ⟨p1, p2⟩ := inB_true ha
              obtain ⟨q1, q2⟩ := inB_true hb
              obtain ⟨na, rfl⟩ := Int.eq_ofNat_of_zero_le p1
              obtain ⟨nb', rfl⟩ := Int.eq_ofNat_of_zero_le q1
              have e1 : mergeE l (na : Int) (nb' : Int) = 0 := by simp [mergeE, ha, hb]
              have e2 : mergeP l P (na : Int) (nb' : Int) = P ++ [(na, nb')] := by simp [mergeP, ha, hb]
              rw [e1, e2] at TM
              clear CA4 hcl hpc WIN ha hb e1 e2 p1 p2 q1 q2
              go_wp2_with (first | (go_at_call 39; refine TM.mono ?_; rintro e w5 ⟨rfl, c5, hc5, CA5, u0, u1, u2⟩; have R5 := CA5.row; have wb5 : B ≤ w5.heap.size := CA5.cq.cl.un.low; replace CA5 : Hid _ := CA5) | (go_at_call 40; refine (WB1 _).mono ?_; rintro e w6 ⟨rfl, rfl⟩) | (go_at_call 40; refine (WA _).mono ?_; rintro e w6 ⟨rfl, rfl⟩; have WB1 := WB.out; clear WA) | (go_at_call 41; refine (num_in _ _).mono ?_; rintro e w6 ⟨rfl, rfl⟩) | (at_builtin; go_loud (refine wpList_append_here rfl _ _ 65 rfl B 70 i0 _ 2 16 Try.underlying65 hi0 hz0 hz1 hz2 rfl (by decide) _ _ (pairC (pInt P)) rfl (R5.alloc _) ⟨w5.heap.size, 0, none⟩ 1 1 [.int .i64 (na : Int), .int .i64 (nb' : Int)] rfl rfl (by exact cell_two_news w5 0 _ _ _) (by simp [Value.oneCell']) (by unfold maxLen; omega) (by omega) (by simp; omega) ?_; intro v6 w6 hown6 hgr6 hloc6)))
              go_meet
              case rel => exact ⟨P ++ [(na, nb')], c5, ev, lb, hc5, CA5.out.note ((Kept.refl _ w5).alloc _) hown6 hgr6 hloc6, by show _ ≤ _; simp; omega⟩
        · have d0 : (xk == 0) = false := beq_eq_false_iff_ne.2 h0
          by_cases h1 : xk = 1
          · have d1 : (xk == 1) = true := by rw [h1]; rfl
            clear h0 h1
            have UN : Calls Try.prog 42 #[.pointer (some ⟨c.pc, 0, none⟩), .int .i64 xa] w4 fun e W' => e = .returned (.bool (undoB P xa)) ∧ ∃ c5 : Ks, c5.pc = c.pc ∧ Ca w B W' p nb fb (.slice aa l.length ac) l vs ev lb c5 o4 (undoP P xa) Q4 P (.slice ta P.length tc) ∧
                (W'.cell? ⟨bx, 0, none⟩ = some (.int .i64 xk) ∧ W'.cell? ⟨bx, 1, none⟩ = some (.int .i64 xa) ∧ W'.cell? ⟨bx, 2, none⟩ = some (.int .i64 xb)) := by
              rw [← hpc]
              refine (CA4.undo xa).mono ?_
              rintro e W' ⟨he, c5, h1, h2, K⟩
              exact ⟨he, c5, h1, h2, box3 K (fun e => Nat.lt_irrefl _ (hcl _ e)) ⟨z0, z1, z2⟩⟩
            by_cases g1 : 0 ≤ xa
            · have dg1 : decide ((0 : Int) ≤ xa) = true := decide_eq_true g1
              by_cases g2 : xa ≤ (P.length : Int)
              · have dg2 : decide (xa ≤ (P.length : Int)) = true := decide_eq_true g2
                obtain ⟨m, rfl⟩ := Int.eq_ofNat_of_zero_le g1
                have hmP : m ≤ P.length := by omega
                have e1 : undoB P (m : Int) = true := by simp [undoB]; omega
                have e2 : undoP P (m : Int) = P.take m := by simp [undoP, e1]
                rw [e1, e2] at UN
                have htc : P.length ≤ tc := by
                  rcases CA4.row.2 with ⟨e3, e4⟩ | ⟨g, c9, cur, e3, _, _, h3, _⟩
                  · rw [e4]; exact Nat.zero_le _
                  · simp only [Value.slice.injEq] at e3
                    rw [e3.2.2]; exact h3
                have hta : (ta = none ∧ m = 0) ∨ ∃ g, ta = some ⟨g, 0, none⟩ := by
                  rcases CA4.row.2 with ⟨e3, e4⟩ | ⟨g, c9, cur, e3, _⟩
                  · simp only [Value.slice.injEq] at e3
                    exact .inl ⟨e3.1, by omega⟩
                  · simp only [Value.slice.injEq] at e3
                    exact .inr ⟨g, e3.1⟩
                have hmtc : m ≤ tc := by omega
                clear CA4 hcl hpc WIN g1 g2 e1 e2
                have FN : Hid (∀ (W : World) (c5 : Ks), Ca w B W p nb fb (.slice aa l.length ac) l vs ev lb c5 o4 (P.take m) Q4 P (.slice ta P.length tc) → Ca w B W p nb fb (.slice aa l.length ac) l vs ev lb c5 o4 (P.take m) Q4 (P.take m) (.slice ta m tc)) := fun W c5 h => h.cut m hmP
                have hlm : Hid ((P.take m).length ≤ k + 1) := by show _ ≤ _; rw [List.length_take]; omega
                rcases hta with ⟨rfl, rfl⟩ | ⟨g, rfl⟩
                · go_wp2_with (go_at_call 42; refine UN.mono ?_; rintro e w5 ⟨rfl, c5, hc5, CA5, u0, u1, u2⟩; replace CA5 : Hid _ := CA5)
                  go_meet
                  case rel => exact ⟨P.take 0, c5, ev, lb, hc5, FN.out w5 c5 CA5.out, hlm⟩
                · go_wp2_with (go_at_call 42; refine UN.mono ?_; rintro e w5 ⟨rfl, c5, hc5, CA5, u0, u1, u2⟩; replace CA5 : Hid _ := CA5)
                  go_meet
                  case rel => exact ⟨P.take m, c5, ev, lb, hc5, FN.out w5 c5 CA5.out, hlm⟩
              · have dg2 : decide (xa ≤ (P.length : Int)) = false := decide_eq_false g2
                have e1 : undoB P xa = false := by simp [undoB]; omega
                have e2 : undoP P xa = P := by simp [undoP, e1]
                rw [e1, e2] at UN
                clear CA4 hcl hpc WIN g1 g2 e1 e2
                go_wp2_with (go_at_call 42; refine UN.mono ?_; rintro e w5 ⟨rfl, c5, hc5, CA5, u0, u1, u2⟩; replace CA5 : Hid _ := CA5)
                go_meet
                case rel => exact ⟨P, c5, ev, lb, hc5, CA5.out, by show _ ≤ _; omega⟩
            · have dg1 : decide ((0 : Int) ≤ xa) = false := decide_eq_false g1
              have e1 : undoB P xa = false := by simp [undoB]; omega
              have e2 : undoP P xa = P := by simp [undoP, e1]
              rw [e1, e2] at UN
              clear CA4 hcl hpc WIN g1 e1 e2
              go_wp2_with (go_at_call 42; refine UN.mono ?_; rintro e w5 ⟨rfl, c5, hc5, CA5, u0, u1, u2⟩; replace CA5 : Hid _ := CA5)
              go_meet
              case rel => exact ⟨P, c5, ev, lb, hc5, CA5.out, by show _ ≤ _; omega⟩
          · have d1 : (xk == 1) = false := beq_eq_false_iff_ne.2 h1
            by_cases h2 : xk = 2
            · have d2 : (xk == 2) = true := by rw [h2]; rfl
              have RD1 := CA4.read ⟨#[110, 101, 119, 40, 97, 41]⟩
              clear CA4 hcl WIN h0 h1 h2
              go_wp2_with (first | (go_at_call 16; refine RD2.mono ?_; rintro e w6 ⟨⟨v1, v2, v3, rfl⟩, ev6, lb6, CA6⟩) | (go_at_call 16; refine RD1.mono ?_; rintro e w5 ⟨⟨v1, v2, v3, rfl⟩, ev5, lb5, CA5⟩; have RD2 := CA5.read ⟨#[102, 40, 110, 101, 119, 40, 97, 41, 41]⟩; clear RD1))
              go_meet
              case rel => exact ⟨P, c', ev6, lb6, hpc, CA6, by show _ ≤ _; omega⟩
            · have d2 : (xk == 2) = false := beq_eq_false_iff_ne.2 h2
              clear hcl WIN h0 h1 h2
              go_wp2_with fail
              go_meet
              case rel => exact ⟨P, c', ev, lb, hpc, CA4, by show _ ≤ _; omega⟩
      case rest =>
        obtain ⟨P', c5, ev5, lb5, hc5, CA5, hP5⟩ := hcut
        generalize wc = wA at *
        clear CA4 z0 z1 z2 hcl hPQ hpc hpo
        obtain ⟨ta5, tc5, htv5⟩ := CA5.forms
        subst htv5
        have hpl := hP5.out
        have CLS := CA5.closed hbd.out hlen (by omega)
        have KC : Hid (∀ W, Kept0 wA W → Calls Try.prog 44 #[.pointer (some ⟨c.pc, 0, none⟩)] W fun e w' => e = .returned (.slice (some ⟨W.heap.size, 0, none⟩) l.length l.length) ∧ w'.rowIs W.heap.size 3 l.length (fun i => .int .i64 (c5.z.g.lo i : Int)) ∧ Kept0 W w') := fun W K => by
          rw [← hc5]
          exact kClasses_in W B l c5 P' (CA5.cq.cl.kept0 K)
        have MK : Hid (∀ W, Kept0 wA W → Calls Try.prog 46 #[.pointer (some ⟨c.pc, 0, none⟩)] W fun e w' => e = .returned (.int .i64 (P'.length : Int)) ∧ W = w') := fun W K => by
          rw [← hc5]
          exact kMark_in W B l c5 P' (CA5.cq.cl.kept0 K)
        have SM : Hid (∀ W, Kept0 wA W → Calls Try.prog 47 #[.pointer (some ⟨c.pc, 0, none⟩), .int .i64 x, .int .i64 y] W fun e w' => e = .returned (.bool (sameB l.length c5.z.g x y)) ∧ ∃ m, w' = W.drewN m) := fun W K => by
          rw [← hc5]
          exact kSame_in W B l c5 P' (CA5.cq.cl.kept0 K) x y
        have HOK : Hid (Uf.Ok l.length c5.z.g c5.z.t.length) := CA5.cq.cl.un.cz.ok
        have HCA : Hid (∀ W, Kept0 wA W → Ca w B W p nb fb (.slice aa l.length ac) l vs ev5 lb5 c5 o4 P' Q4 P' (.slice ta5 P'.length tc5)) := fun W K => CA5.kept0 K
        clear CA5
        go_upto_region 34 with (first | (go_at_call 43; refine CLS.mono ?_; rintro e w6 ⟨va, vc, rfl, R6, K6⟩; have KC6 := KC.out w6 K6) | (go_at_call 44; refine KC6.mono ?_; rintro e w7 ⟨rfl, R7, K7⟩; have R67 := ownsRow_block R6 (fun j hj => K7.block j (R6.lt j hj).2 (fun e => e)); have INT := ints3_in w7 w6.heap.size wA.heap.size (some ⟨w6.heap.size, 0, none⟩) va l.length vc (lows l c5.z.g) (by rw [lows_len]; exact rowIs_owns R7 (by unfold maxLen; omega)) (by rw [lows_len]; exact R67) (by rw [lows_len]; omega); rw [lows_len] at INT; clear KC6) | (go_at_call 45; refine INT.mono ?_; rintro e w8 ⟨rfl, K8⟩))
        have K68 : Kept0 w6 w8 := K7.trans K8
        have K08 : Kept0 wA w8 := K6.trans K68
        have R68 := ownsRow_block R6 (fun j hj => K68.block j (R6.lt j hj).2 (fun e => e))
        have kb1 : wA.heap.size ≤ w6.heap.size := K6.size
        have R78 := World.rowIs.of_block R7 (K8.block _ (World.rowIs.lt R7) (fun e => e))
        clear CLS INT R6 R67 R7 K6 K7 K8 K68
        go_cut [169] (fun v wx => v = .bool false ∧ Kept0 w8 wx)
        case first =>
          have MKm := fun m => MK.out (w8.drewN m) (K08.drewN m)
          have SMm := fun m => SM.out (w8.drewN m) (K08.drewN m)
          have WIm := fun m (a : Int) => within_in (w8.drewN m) a aa l.length ac
          cases hx : inB l.length x
          · have e1 : sameB l.length c5.z.g x y = false := by simp [sameB, hx]
            rw [e1] at SMm
            clear e1 R68 R78
            have WX := fun m => WIm m x
            rw [hx] at WX
            clear WIm hx
            have dP : ((P'.length : Int) != (P'.length : Int)) = false := by simp
            go_quiet ((first | (go_at_call 46; exact Calls.quiet_of_same ((MKm _).mono fun _ _ x => ⟨x.1, x.2.symm⟩)) | (go_at_call 47; exact Calls.quiet_of (SMm _)) | (go_at_call 40; exact Calls.quiet_of_same ((WX _).mono fun _ _ x => ⟨x.1, x.2.symm⟩))))
            go_wp2_with fail
            go_meet
            case rel => exact ⟨rfl, (Kept.refl _ w8).drewN _⟩
          · cases hy : inB l.length y
            · have e1 : sameB l.length c5.z.g x y = false := by simp [sameB, hy]
              rw [e1] at SMm
              clear e1 R68 R78
              have WX : ∀ (m : Nat) (a : Int) (b : Bool), (a = x ∧ b = true ∨ a = y ∧ b = false) → Calls Try.prog 40 #[.int .i64 a, .slice aa l.length ac] (w8.drewN m) fun e w' => e = .returned (.bool b) ∧ w8.drewN m = w' := fun m a b h => by
                have h1 := WIm m a
                rcases h with ⟨rfl, rfl⟩ | ⟨rfl, rfl⟩
                · rw [hx] at h1; exact h1
                · rw [hy] at h1; exact h1
              clear WIm hx hy
              have dP : ((P'.length : Int) != (P'.length : Int)) = false := by simp
              go_quiet ((first | (go_at_call 46; exact Calls.quiet_of_same ((MKm _).mono fun _ _ x => ⟨x.1, x.2.symm⟩)) | (go_at_call 47; exact Calls.quiet_of (SMm _)) | (go_at_call 40; exact Calls.quiet_of_same ((WX _ _ _ (by first | exact .inl ⟨rfl, rfl⟩ | exact .inr ⟨rfl, rfl⟩)).mono fun _ _ x => ⟨x.1, x.2.symm⟩))))
              go_wp2_with fail
              go_meet
              case rel => exact ⟨rfl, (Kept.refl _ w8).drewN _⟩
            · obtain ⟨p1, p2⟩ := inB_true hx
              obtain ⟨q1, q2⟩ := inB_true hy
              obtain ⟨i, rfl⟩ := Int.eq_ofNat_of_zero_le p1
              obtain ⟨j, rfl⟩ := Int.eq_ofNat_of_zero_le q1
              have hi : i < l.length := by omega
              have hj : j < l.length := by omega
              obtain ⟨g, rfl⟩ : ∃ g, va = some ⟨g, 0, none⟩ := by
                rcases R68.2 with ⟨_, e2⟩ | ⟨g, c9, cur, e', _⟩
                · omega
                · simp only [Value.slice.injEq] at e'
                  exact ⟨g, e'.1⟩
              have ci := R68.cellAt i (by omega)
              have cj := R68.cellAt j (by omega)
              rw [natC_get, lows_get hi] at ci
              rw [natC_get, lows_get hj] at cj
              have ci' : w8.cell? ⟨g, i, none⟩ = some (.int .i64 (c5.z.g.lo i : Int)) := ci
              have cj' : w8.cell? ⟨g, j, none⟩ = some (.int .i64 (c5.z.g.lo j : Int)) := cj
              have e1 : ((c5.z.g.lo i : Int) == (c5.z.g.lo j : Int)) = sameB l.length c5.z.g (i : Int) (j : Int) := by
                rw [Bool.eq_iff_iff, beq_iff_eq]
                simp only [sameB, hx, hy, Bool.true_and, decide_eq_true_eq, Int.toNat_natCast]
                rw [← lo_root HOK.out hi hj]
                omega
              generalize sameB l.length c5.z.g (i : Int) (j : Int) = sb at *
              generalize c5.z.g.lo i = li at *
              generalize c5.z.g.lo j = lj at *
              clear ci cj R68 R78 p1 p2 q1 q2
              cases sb
              · have dP : ((P'.length : Int) != (P'.length : Int)) = false := by simp
                go_quiet ((first | (go_at_call 46; exact Calls.quiet_of_same ((MKm _).mono fun _ _ x => ⟨x.1, x.2.symm⟩)) | (go_at_call 47; exact Calls.quiet_of (SMm _)) | (go_at_call 40; exact Calls.quiet_of_same ((WIm _ _).mono fun _ _ x => ⟨x.1, x.2.symm⟩))))
                go_wp2_with fail
                go_meet
                case rel => exact ⟨rfl, (Kept.refl _ w8).drewN _⟩
              · have dP : ((P'.length : Int) != (P'.length : Int)) = false := by simp
                go_quiet ((first | (go_at_call 46; exact Calls.quiet_of_same ((MKm _).mono fun _ _ x => ⟨x.1, x.2.symm⟩)) | (go_at_call 47; exact Calls.quiet_of (SMm _)) | (go_at_call 40; exact Calls.quiet_of_same ((WIm _ _).mono fun _ _ x => ⟨x.1, x.2.symm⟩))))
                go_wp2_with fail
                go_meet
                case rel => exact ⟨rfl, (Kept.refl _ w8).drewN _⟩
        case rest =>
          obtain ⟨rfl, K9⟩ := hcut
          have R9 := World.rowIs.of_block R78 (K9.block _ (World.rowIs.lt R78) (fun e => e))
          have K09 : Kept0 wA wc := K08.trans K9
          clear R68 R78 K08 K9 MK SM KC HOK
          generalize w6.heap.size = kb at *
          go_wp2_with fail
          go_loopw [22] (fun t22 W => ∃ (j : Nat) (f : Nat → Value), j ≤ l.length ∧ t22 = .int .i64 (j : Int) ∧ W.rowIs kb 3 l.length f ∧ Kept0 wA W) (fun t22 _ => l.length - (intOf t22).toNat)
          case atStart => exact ⟨0, _, Nat.zero_le _, rfl, R9, K09⟩
          case round =>
            clear R9 K09
            obtain ⟨j, f, hj, rfl, R, K⟩ := hrel
            by_cases hj2 : j < l.length
            · have dj : decide ((j : Int) < (l.length : Int)) = true := decide_eq_true (by omega)
              have cj := R.cell (i := j) hj2
              have fj := R.frozen j
              have HH : Hid (_ ∧ _) := And.intro R K
              clear R K
              go_wp2_with fail
              exact ⟨⟨j + 1, _, hj2, by simp, HH.out.1.set j _, Kept.setNew HH.out.2 kb1 _⟩, by simp [intOf]; omega⟩
            · have dj : decide ((j : Int) < (l.length : Int)) = false := decide_eq_false (by omega)
              have CAW := HCA.out wr K
              clear R
              go_wp2_with fail
              exact ⟨⟨k + 1, P', Q4, c5, o4, ev5, lb5, hk2, by simp, hc5, ho4, CAW, hpl, hq4⟩, by simp [intOf]; omega⟩
    · have dk : decide ((k : Int) < (ops.length : Int)) = false := decide_eq_false (by omega)
      have hpl := hPQ.out.1
      have KC := kClasses_in wr B l c' P CA.cq.cl
      rw [hpc] at KC
      have CLS : Hid (∀ W, Kept0 wr W → Calls Try.prog 43 #[.slice aa l.length ac, .slice ta P.length tc] W fun e w' => ∃ va vc, e = .returned (.slice va l.length vc) ∧ w'.ownsRow W.heap.size 3 1 (.slice va l.length vc) l.length (natC (lows l c'.z.g)) ∧ Kept0 W w') := fun W K => (CA.kept0 K).closed hbd.out hlen (by omega)
      have BEL : Hid (Kept0 w wr) := CA.bel
      clear CA hpc hpo hPQ
      go_wp2_with (first | (go_at_call 44; refine KC.mono ?_; rintro e w5 ⟨rfl, R5, K5⟩; have CL5 := CLS.out w5 K5; clear KC) | (go_at_call 43; refine CL5.mono ?_; rintro e w6 ⟨va, vc, rfl, R6, K6⟩; have R56 := World.rowIs.of_block R5 (K6.block _ (World.rowIs.lt R5) (fun e => e)); have INT := ints3_in w6 wr.heap.size w5.heap.size (some ⟨wr.heap.size, 0, none⟩) va l.length vc (lows l c'.z.g) (by rw [lows_len]; exact rowIs_owns R56 (by unfold maxLen; omega)) (by rw [lows_len]; exact R6) (by rw [lows_len]; omega); rw [lows_len] at INT; clear CL5) | (go_at_call 45; refine INT.mono ?_; rintro e w7 ⟨rfl, K7⟩; have AL := alive3_any w7) | (go_at_call 48; refine AL.mono ?_; rintro e w8 ⟨rfl, B8⟩))
      go_ret
      have K07 : Kept0 w w7 := ((BEL.out.trans K5).trans K6).trans K7
      have b7 : Below w.heap.size w w7 := Kept.below K07 (Nat.le_refl _) (fun _ e => e.elim)
      exact ⟨rfl, b7.trans (B8.mono b7.size)⟩

end Go.Proofs.Ytjfekcjhflcnaaa
