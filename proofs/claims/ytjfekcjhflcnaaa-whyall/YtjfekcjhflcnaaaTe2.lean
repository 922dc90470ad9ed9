/- Package term: add. Package term: add, where the term is new. Package term: add as one; New. Package term: what takeOut leaves, plainly. Package term: clear of the end of a row of entries. Package term: takeOut. Package term: the parser, plainly. Package term: the parser's counts; reader and bank together. -/
import Derived.Test.YtjfekcjhflcnaaaTe1
import Derived.Test.YtjfekcjhflcnaaaCloneC
import Derived.Test.YtjfekcjhflcnaaaFiG
import Derived.Lib.SliceRun
namespace Go.Proofs.Ytjfekcjhflcnaaa
open Go.RowKit Go.Maps

theorem nix_snoc (l : List Tm) (t u : Tm) : nix (l ++ [t]) u = match nix l u with
    | some i => some i
    | none => if t = u then some l.length else none := by
  unfold nix
  rw [List.findIdx?_append]
  cases h : List.findIdx? (fun x => decide (x = u)) l with
  | some i => rfl
  | none => by_cases e : t = u <;> simp [List.findIdx?_cons, e]

theorem fst_snoc (l : List Tm) (t : Tm) (n : ByteArray) : fst (l ++ [t]) n = match fst l n with
    | some i => some i
    | none => if t.name = n then some l.length else none := by
  unfold fst
  rw [List.findIdx?_append]
  cases h : List.findIdx? (fun x => decide (x.name = n)) l with
  | some i => rfl
  | none => by_cases e : t.name = n <;> simp [List.findIdx?_cons, e]

theorem fst_mem {l : List Tm} {t : Tm} (h : t ∈ l) : ∃ i, fst l t.name = some i := by
  cases hf : fst l t.name with
  | some i => exact ⟨i, rfl⟩
  | none =>
    have := List.findIdx?_eq_none_iff.1 hf t h
    simp at this
theorem isF_snoc (l : List Tm) (t : Tm) {i : Nat} (hi : i < l.length) : isF (l ++ [t]) i = isF l i := by
  unfold isF
  rw [List.getElem?_append_left hi, List.getElem?_eq_getElem hi]
  obtain ⟨k, hk⟩ := fst_mem (List.getElem_mem hi)
  simp only [fst_snoc, hk]
theorem isF_last (l : List Tm) (t : Tm) : isF (l ++ [t]) l.length = (fst l t.name).isNone := by
  unfold isF
  rw [List.getElem?_append_right (Nat.le_refl _)]
  simp only [Nat.sub_self, List.getElem?_cons_zero, fst_snoc]
  cases hf : fst l t.name with
  | none => simp
  | some i =>
    have hlt : i < l.length := (List.findIdx?_eq_some_iff_getElem.1 hf).1
    simp
    omega
theorem cntF_snoc (l : List Tm) (t : Tm) : cntF (l ++ [t]) = cntF l + (if (fst l t.name).isNone then 1 else 0) := by
  unfold cntF
  rw [List.length_append, List.length_singleton, List.range_succ, List.filter_append, List.length_append]
  have e : (List.range l.length).filter (isF (l ++ [t])) = (List.range l.length).filter (isF l) := List.filter_congr (fun i hi => isF_snoc l t (List.mem_range.1 hi))
  rw [e]
  simp only [List.filter_cons, isF_last, List.filter_nil]
  split <;> simp

theorem nix_none {l : List Tm} {t : Tm} (h : nix l t = none) : t ∉ l := by
  intro hm
  have := List.findIdx?_eq_none_iff.1 h t hm
  simp at this

theorem ekey_lit {t : Tm} (ht : t.ok) : ∃ k, ekey t = k ∧ WideAt.IsKeyLit k := by
  have h := ekey_of ht
  generalize ekey t = k at h
  exact ⟨k, rfl, tLaw.key h⟩
theorem skey_lit {n : ByteArray} (h : n.size ≤ 6) : WideAt.IsKeyLit (skey n) := by
  have h := skey_of h
  generalize skey n = k at h
  exact sLaw.key h

theorem nums_snoc {D : DataW Unit} {l : List Tm} {t : Tm} (h : ∀ u : Tm, u.ok → Says D (ekey u) (nix l u)) (hD : IsMap D) (ht : t.ok) (hn : nix l t = none) :
    ∀ u : Tm, u.ok → Says (D.put (ekey t) (.lit (.int .i64 (l.length : Int)))) (ekey u) (nix (l ++ [t]) u) := by
  intro u hu
  by_cases e : t = u
  · subst e
    rw [nix_snoc, hn]
    simp only [if_true]
    obtain ⟨kk, e, hk⟩ := ekey_lit ht
    rw [e]
    exact Says.put_same hD hk l.length
  · have e1 : nix (l ++ [t]) u = nix l u := by
      rw [nix_snoc]
      cases nix l u <;> simp [e]
    rw [e1]
    exact (h u hu).put_other (fun x => e (ekey_inj hu ht x).symm) _

theorem fsts_snoc {D : DataW Unit} {l : List Tm} {t : Tm} (h : ∀ n : ByteArray, n.size ≤ 6 → Says D (skey n) (fst l n)) (hD : IsMap D) (ht : t.ok) (hn : fst l t.name = none) :
    ∀ n : ByteArray, n.size ≤ 6 → Says (D.put (skey t.name) (.lit (.int .i64 (l.length : Int)))) (skey n) (fst (l ++ [t]) n) := by
  intro n hz
  by_cases e : t.name = n
  · subst e
    rw [fst_snoc, hn]
    simp only [if_true]
    exact Says.put_same hD (skey_lit ht.name) l.length
  · have e1 : fst (l ++ [t]) n = fst l n := by
      rw [fst_snoc]
      cases fst l n <;> simp [e]
    rw [e1]
    exact (h n hz).put_other (fun x => e (skey_inj x).symm) _

theorem fsts_kept {D : DataW Unit} {l : List Tm} {t : Tm} (h : ∀ n : ByteArray, n.size ≤ 6 → Says D (skey n) (fst l n)) {i : Nat} (hn : fst l t.name = some i) :
    ∀ n : ByteArray, n.size ≤ 6 → Says D (skey n) (fst (l ++ [t]) n) := by
  intro n hz
  have e1 : fst (l ++ [t]) n = fst l n := by
    rw [fst_snoc]
    cases hf : fst l n with
    | some i => rfl
    | none =>
      have : ¬ t.name = n := fun e => by rw [e] at hn; rw [hn] at hf; cases hf
      simp [this]
  rw [e1]
  exact h n hz

/-- What add makes of a bank; the number that it answers. -/
def addL (l : List Tm) (t : Tm) : List Tm := match nix l t with
  | some _ => l
  | none => l ++ [t]
def addN (l : List Tm) (t : Tm) : Nat := (nix l t).getD l.length

def BFoot (p : Nat) (ev : Value) (nb fb k : Nat) : Prop := k = p ∨ k = nb ∨ k = fb ∨ ev.ownBlock = some k

set_option maxHeartbeats 400000 in
theorem add_old (w : World) (base p : Nat) (ev : Value) (nb fb : Nat) (l : List Tm) (h : Bk w base p ev nb fb l) (t : Tm) (ht : t.ok) (i : Nat) (hi : nix l t = some i) :
    Calls Try.prog 144 #[.pointer (some ⟨p, 0, none⟩), entryV t] w fun e w' => e = .returned (.int .i64 (i : Int)) ∧ Bk w' base p ev nb fb l ∧ Kept0 w w' := by
  unfold entryV entryL
  have W1 := boxed w t
  unfold entryL at W1
  have b0 := W1 0 _ rfl
  have b1 := W1 1 _ rfl
  have b2 := W1 2 _ rfl
  have b3 := W1 3 _ rfl
  have b4 := W1 4 _ rfl
  have b5 := W1 5 _ rfl
  clear W1
  go_enter Try.func144, Try.ntmps144
  go_wp2_with fail
  generalize hw1 : w.alloc (Obj.cells #[.string t.name, .int .i64 (t.args.length : Int), .int .i64 (t.arg 0 : Int), .int .i64 (t.arg 1 : Int), .int .i64 (t.arg 2 : Int), .int .i64 (t.arg 3 : Int)] 124) = w1 at b0 b1 b2 b3 b4 b5 ⊢
  have K1 : Kept0 w w1 := hw1 ▸ Kept.alloc (Kept.refl _ w) _
  have H1 := h.kept0 K1
  have c0 := H1.c0
  have c1 := H1.c1
  have LN := fun m => (H1.drewN m).lookN ht
  rw [hi] at LN
  simp only [Option.getD_some, Option.isSome_some, entryV, entryL] at LN
  go_quiet (fail)
  go_wp2_with fail
  go_ret
  exact ⟨rfl, H1.drewN _, Kept.drewN K1 _⟩

end Go.Proofs.Ytjfekcjhflcnaaa

namespace Go.Proofs.Ytjfekcjhflcnaaa
open Go.RowKit Go.Maps

theorem infoEntry : (Try.prog.info? 124).map (fun i => (i.zero, i.size, i.bytes)) = some (some (.agg #[.string ⟨#[]⟩, .int .i64 0, .int .i64 0, .int .i64 0, .int .i64 0, .int .i64 0]), 6, 56) := by kernel_rfl

/-- The cells of a box that holds an entry. -/
def boxF (t : Tm) (j : Nat) : Value := (entryL t).toArray[j]?.getD undef
abbrev Boxed (w : World) (b : Nat) (t : Tm) : Prop := w.rowIs b 124 6 (boxF t)
theorem boxed_row (w : World) (t : Tm) : Boxed (w.alloc (.cells (entryL t).toArray 124)) w.heap.size t := made_row w (entryL t).toArray 124

theorem Boxed.c0 {w : World} {b : Nat} {t : Tm} (h : Boxed w b t) : w.cell? ⟨b, 0, none⟩ = some (.string t.name) := h.cell (i := 0) (by omega)
theorem Boxed.c1 {w : World} {b : Nat} {t : Tm} (h : Boxed w b t) : w.cell? ⟨b, 1, none⟩ = some (.int .i64 (t.args.length : Int)) := h.cell (i := 1) (by omega)
theorem Boxed.c2 {w : World} {b : Nat} {t : Tm} (h : Boxed w b t) : w.cell? ⟨b, 2, none⟩ = some (.int .i64 (t.arg 0 : Int)) := h.cell (i := 2) (by omega)
theorem Boxed.c3 {w : World} {b : Nat} {t : Tm} (h : Boxed w b t) : w.cell? ⟨b, 3, none⟩ = some (.int .i64 (t.arg 1 : Int)) := h.cell (i := 3) (by omega)
theorem Boxed.c4 {w : World} {b : Nat} {t : Tm} (h : Boxed w b t) : w.cell? ⟨b, 4, none⟩ = some (.int .i64 (t.arg 2 : Int)) := h.cell (i := 4) (by omega)
theorem Boxed.c5 {w : World} {b : Nat} {t : Tm} (h : Boxed w b t) : w.cell? ⟨b, 5, none⟩ = some (.int .i64 (t.arg 3 : Int)) := h.cell (i := 5) (by omega)
theorem Boxed.kept0 {w w' : World} {b : Nat} {t : Tm} (h : Boxed w b t) (K : Kept0 w w') : Boxed w' b t := World.rowIs.of_block h (K.block b (World.rowIs.lt h) (fun e => e))
theorem Boxed.named {w : World} {b : Nat} {t : Tm} (h : Boxed w b t) : Boxed (w.setCell ⟨b, 0, none⟩ (.string t.name)) b t :=
  World.rowIs.congr (World.rowIs.set h 0 (.string t.name)) (fun j hj => by
    by_cases e : j = 0
    · subst e; rfl
    · simp [e])

/-- A bank's row and maps, whatever they say. -/
structure Bq (w : World) (base p : Nat) (ev : Value) (nb fb : Nat) (l : List Tm) (Dn Df : DataW Unit) : Prop where
  bank : w.rowIs p 105 3 (bankC ev nb fb)
  rows : w.ownsRow base 124 6 ev l.length (l.flatMap entryL)
  nums : mapIs w 124 nb Dn
  fsts : mapIs w 9 fb Df
  pn : p ≠ nb
  pf : p ≠ fb
  nf : nb ≠ fb
  ep : ev.ownBlock ≠ some p
  en : ev.ownBlock ≠ some nb
  ef : ev.ownBlock ≠ some fb
  bp : base ≤ p
  bn : base ≤ nb
  bf : base ≤ fb

structure Tells (l : List Tm) (Dn Df : DataW Unit) : Prop where
  nsize : Maps.size Dn = l.length
  nsays : ∀ t : Tm, t.ok → Says Dn (ekey t) (nix l t)
  fsize : Maps.size Df = cntF l
  fsays : ∀ n : ByteArray, n.size ≤ 6 → Says Df (skey n) (fst l n)
  oks : ∀ t ∈ l, t.ok
  nodup : l.Nodup
  small : l.length ≤ 1000

theorem Bk.split {w : World} {base p : Nat} {ev : Value} {nb fb : Nat} {l : List Tm} (h : Bk w base p ev nb fb l) : ∃ Dn Df, Bq w base p ev nb fb l Dn Df ∧ Tells l Dn Df := by
  obtain ⟨Dn, n1, n2, n3⟩ := h.nums
  obtain ⟨Df, f1, f2, f3⟩ := h.fsts
  exact ⟨Dn, Df, ⟨h.bank, h.rows, n1, f1, h.pn, h.pf, h.nf, h.ep, h.en, h.ef, h.bp, h.bn, h.bf⟩, ⟨n2, n3, f2, f3, h.oks, h.nodup, h.small⟩⟩
theorem Bq.whole {w : World} {base p : Nat} {ev : Value} {nb fb : Nat} {l : List Tm} {Dn Df : DataW Unit} (h : Bq w base p ev nb fb l Dn Df) (T : Tells l Dn Df) : Bk w base p ev nb fb l :=
  ⟨h.bank, h.rows, ⟨Dn, h.nums, T.nsize, T.nsays⟩, ⟨Df, h.fsts, T.fsize, T.fsays⟩, T.oks, T.nodup, h.pn, h.pf, h.nf, h.ep, h.en, h.ef, h.bp, h.bn, h.bf, T.small⟩

theorem mapIs_type {w : World} {b k : Nat} {kt e : TypeId} {D : DataW Unit} (h : mapIs w kt b D) {base size : Nat} {v : Value} {xs : List Value} (hr : w.ownsRow base e size v k xs) : v.ownBlock ≠ some b := by
  intro hb
  obtain ⟨es, clock, hm, _⟩ := h
  rcases hr.2 with ⟨rfl, _⟩ | ⟨g, cap, cur, rfl, _, hg, _⟩
  · simp [Value.ownBlock] at hb
  · simp [Value.ownBlock] at hb
    subst hb
    rw [hm] at hg
    cases hg

theorem six_news (w : World) (m : Nat) (t : Tm) : ∀ j u, (entryL t)[j]? = some u → ((w.drewN m).alloc (.cells (entryL t).toArray 124)).cell? ((⟨w.heap.size, 0, none⟩ : Addr).add j) = some u := by
  intro j u hj
  have e := boxed (w.drewN m) t j u hj
  have ea : ((⟨w.heap.size, 0, none⟩ : Addr).add j) = ⟨w.heap.size, j, none⟩ := by
    simp [Addr.add]
    intro e0
    rw [e0]
  rw [ea]
  exact e

/-- A term is kept in the row: the maps are as they were. -/
theorem Bq.appended {w w1 : World} {base p : Nat} {ev : Value} {nb fb : Nat} {l : List Tm} {Dn Df : DataW Unit} (h : Bq w base p ev nb fb l Dn Df) (m : Nat) (O : Obj) (t : Tm) (v' : Value)
    (hown : w1.ownsRow base 124 6 v' (l.length + 1) (l.flatMap entryL ++ entryL t)) (hgrow : ((w.drewN m).alloc O).grownBy w1 ev.ownBlock)
    (hloc : v'.ownBlock = ev.ownBlock ∨ ∀ k, v'.ownBlock = some k → ((w.drewN m).alloc O).heap.size ≤ k) :
    Bq (w1.setCell ⟨p, 0, none⟩ v') base p v' nb fb (l ++ [t]) Dn Df ∧ Kept (BFoot p ev nb fb) w (w1.setCell ⟨p, 0, none⟩ v') ∧ (v'.ownBlock = ev.ownBlock ∨ ∀ k, v'.ownBlock = some k → w.heap.size ≤ k) ∧
      w1.cell? ⟨p, 0, none⟩ = some ev ∧ w1.frozen? ⟨p, 0, none⟩ = false := by
  have hb0 : ((w.drewN m).alloc O).rowIs p 105 3 (bankC ev nb fb) := World.rowIs.alloc (World.rowIs.of_block h.bank rfl) O
  have hp : w1.rowIs p 105 3 (bankC ev nb fb) := hb0.of_block (hgrow.block p hb0.lt (fun e => h.ep e.symm))
  have n0 : mapIs ((w.drewN m).alloc O) 124 nb Dn := World.ownsMap.alloc h.nums O
  have f0 : mapIs ((w.drewN m).alloc O) 9 fb Df := World.ownsMap.alloc h.fsts O
  have n1 : mapIs w1 124 nb Dn := World.ownsMap.kept n0 hgrow (fun e => h.en e.symm)
  have f1 : mapIs w1 9 fb Df := World.ownsMap.kept f0 hgrow (fun e => h.ef e.symm)
  have np := rowIs_type hp (by decide) hown
  refine ⟨⟨(hp.set 0 v').congr ?_, ?_, World.ownsMap.setCell n1 (Ne.symm h.pn) _, World.ownsMap.setCell f1 (Ne.symm h.pf) _, h.pn, h.pf, h.nf, np, mapIs_type n1 hown, mapIs_type f1 hown, h.bp, h.bn, h.bf⟩, ?_, ?_, hp.cell (i := 0) (by omega), hp.frozen 0⟩
  · intro i hi
    rcases (by omega : i = 0 ∨ i = 1 ∨ i = 2) with rfl | rfl | rfl <;> simp [bankC]
  · rw [List.length_append, List.flatMap_append]
    simpa using ownsRow_setCell_other hown np _
  · exact Kept.setCell (S := BFoot p ev nb fb) (p := ⟨p, 0, none⟩) (Kept.grown (((Kept.refl (BFoot p ev nb fb) w).drewN m).alloc O) hgrow (fun k hk => Or.inr (Or.inr (Or.inr hk)))) (Or.inl rfl) _
  · rcases hloc with e | e
    · exact Or.inl e
    · exact Or.inr fun k hk => by have := e k hk; simp at this; omega

theorem Kept1.of_grown {b : Nat} {w w' : World} (h : w.grownBy w' (some b)) : Kept1 b w w' := ⟨h.os, h.tape, h.output, h.size, fun k hk hs => h.block k hk (fun e => hs (by simpa using e))⟩

theorem Bq.drew {w : World} {base p : Nat} {ev : Value} {nb fb : Nat} {l : List Tm} {Dn Df : DataW Unit} (h : Bq w base p ev nb fb l Dn Df) : Bq w.drew base p ev nb fb l Dn Df :=
  ⟨h.bank, h.rows, h.nums, h.fsts, h.pn, h.pf, h.nf, h.ep, h.en, h.ef, h.bp, h.bn, h.bf⟩
theorem Bq.drewN {w : World} {base p : Nat} {ev : Value} {nb fb : Nat} {l : List Tm} {Dn Df : DataW Unit} (h : Bq w base p ev nb fb l Dn Df) (m : Nat) : Bq (w.drewN m) base p ev nb fb l Dn Df :=
  ⟨h.bank, h.rows, h.nums, h.fsts, h.pn, h.pf, h.nf, h.ep, h.en, h.ef, h.bp, h.bn, h.bf⟩

theorem Bq.storeN {w : World} {base p : Nat} {ev : Value} {nb fb : Nat} {l : List Tm} {Dn Df : DataW Unit} (h : Bq w base p ev nb fb l Dn Df) {t : Tm} (ht : t.ok) {n : Nat} (hn : n < 100000) (hs : Maps.size Dn < maxLen) :
    ∃ w', (Instr.mapUpdate 101 (.map (some nb)) (entryV t) (.int .i64 (n : Int))).run Try.prog w = .ok () w' ∧ Bq w' base p ev nb fb l (Dn.put (ekey t) (.lit (.int .i64 (n : Int)))) Df ∧ Kept1 nb w w' := by
  obtain ⟨w', hr, ho, hturn⟩ := World.ownsMap.store h.nums tLaw Try.underlying101 hs (ekey_of ht) (plainElem_int Try.underlying3 (wf64 hn))
  have g := hturn.grown
  exact ⟨w', hr, ⟨h.bank.of_block (g.block p h.bank.lt (by simpa using h.pn)), h.rows.kept g (Or.inr h.en), mapIs_of ho, World.ownsMap.kept h.fsts g (by simpa using Ne.symm h.nf), h.pn, h.pf, h.nf, h.ep, h.en, h.ef, h.bp, h.bn, h.bf⟩, Kept1.of_grown g⟩

theorem Bq.storeF {w : World} {base p : Nat} {ev : Value} {nb fb : Nat} {l : List Tm} {Dn Df : DataW Unit} (h : Bq w base p ev nb fb l Dn Df) {s : ByteArray} (ht : s.size ≤ 6) {n : Nat} (hn : n < 100000) (hs : Maps.size Df < maxLen) :
    ∃ w', (Instr.mapUpdate 102 (.map (some fb)) (.string s) (.int .i64 (n : Int))).run Try.prog w = .ok () w' ∧ Bq w' base p ev nb fb l Dn (Df.put (skey s) (.lit (.int .i64 (n : Int)))) ∧ Kept1 fb w w' := by
  obtain ⟨w', hr, ho, hturn⟩ := World.ownsMap.store h.fsts sLaw Try.underlying102 hs (skey_of ht) (plainElem_int Try.underlying3 (wf64 hn))
  have g := hturn.grown
  exact ⟨w', hr, ⟨h.bank.of_block (g.block p h.bank.lt (by simpa using h.pf)), h.rows.kept g (Or.inr h.ef), World.ownsMap.kept h.nums g (by simpa using h.nf), mapIs_of ho, h.pn, h.pf, h.nf, h.ep, h.en, h.ef, h.bp, h.bn, h.bf⟩, Kept1.of_grown g⟩

/-- 'm[k] = v' as one step of a region that draws. -/
theorem step_mapUpdate {P : Program} {ops : Array Oper} {o : Oper} {a : Act} {w : World} {K : Act → World → Prop} {Q : Exit → Act → World → Prop} {E : Prop} {R : World → Prop}
    (hg : o.guard = none) (m x v : Operand) (t : TypeId) (hop : o.op = Op.mapUpdate t m x v) (mv key val : Value) (hm : a.eval m = mv) (hx : a.eval x = key) (hv : a.eval v = val)
    (hex : ∃ w', (Instr.mapUpdate t mv key val).run P w = .ok () w' ∧ R w') (hK : ∀ w', R w' → K (a.put o.dst undef) w') :
    if Region.wanted o (yielded ops a.tmps) = true then Oper.wp P o a w K Q else E := by
  have hw : Region.wanted o (yielded ops a.tmps) = true := by simp [Region.wanted, hg]
  rw [if_pos hw]
  obtain ⟨w', hrun, r⟩ := hex
  unfold Oper.wp
  simp [execOp, hop, hm, hx, hv, hrun, Result.andThen]
  exact hK w' r

theorem Tells.nput {l : List Tm} {Dn Df : DataW Unit} (T : Tells l Dn Df) {t : Tm} (ht : t.ok) (hi : nix l t = none) (hD : Tidy Dn) : Maps.size (Dn.put (ekey t) (.lit (.int .i64 (l.length : Int)))) = l.length + 1 := by
  have hh := (T.nsays t ht).1
  rw [hi] at hh
  rw [size_put hD, hh, T.nsize]
  rfl
theorem nodup_snoc {l : List Tm} {t : Tm} (h : l.Nodup) (hi : nix l t = none) : (l ++ [t]).Nodup := by
  rw [List.nodup_append]
  exact ⟨h, by simp, fun a ha b hb e => by simp at hb; subst hb; subst e; exact nix_none hi ha⟩
theorem oks_snoc {l : List Tm} {t : Tm} (h : ∀ u ∈ l, u.ok) (ht : t.ok) : ∀ u ∈ l ++ [t], u.ok := by
  intro u hu
  rcases List.mem_append.1 hu with hu | hu
  · exact h u hu
  · simp at hu; subst hu; exact ht
theorem Tells.snoc_new {l : List Tm} {Dn Df : DataW Unit} (T : Tells l Dn Df) {t : Tm} (ht : t.ok) (hi : nix l t = none) (hf : fst l t.name = none) (hlt : l.length < 1000) (hD : Tidy Dn) (hF : Tidy Df) :
    Tells (l ++ [t]) (Dn.put (ekey t) (.lit (.int .i64 (l.length : Int)))) (Df.put (skey t.name) (.lit (.int .i64 (l.length : Int)))) := by
  refine ⟨by rw [T.nput ht hi hD]; simp, nums_snoc T.nsays hD.isMap ht hi, ?_, fsts_snoc T.fsays hF.isMap ht hf, oks_snoc T.oks ht, nodup_snoc T.nodup hi, by simp; omega⟩
  have hh := (T.fsays t.name ht.name).1
  rw [hf] at hh
  rw [size_put hF, hh, T.fsize, cntF_snoc, hf]
  rfl
theorem Tells.snoc_old {l : List Tm} {Dn Df : DataW Unit} (T : Tells l Dn Df) {t : Tm} (ht : t.ok) (hi : nix l t = none) {i : Nat} (hf : fst l t.name = some i) (hlt : l.length < 1000) (hD : Tidy Dn) :
    Tells (l ++ [t]) (Dn.put (ekey t) (.lit (.int .i64 (l.length : Int)))) Df := by
  refine ⟨by rw [T.nput ht hi hD]; simp, nums_snoc T.nsays hD.isMap ht hi, ?_, fsts_kept T.fsays hf, oks_snoc T.oks ht, nodup_snoc T.nodup hi, by simp; omega⟩
  rw [T.fsize, cntF_snoc, hf]
  rfl

set_option maxHeartbeats 1000000 in
theorem add_new (w : World) (base p : Nat) (ev : Value) (nb fb : Nat) (l : List Tm) (h : Bk w base p ev nb fb l) (t : Tm) (ht : t.ok) (hi : nix l t = none) (hlt : l.length < 1000) (hbase : base ≤ w.heap.size) :
    Calls Try.prog 144 #[.pointer (some ⟨p, 0, none⟩), entryV t] w fun e w' => e = .returned (.int .i64 (l.length : Int)) ∧ ∃ ev', Bk w' base p ev' nb fb (l ++ [t]) ∧ Kept (BFoot p ev nb fb) w w' ∧ (ev'.ownBlock = ev.ownBlock ∨ ∀ k, ev'.ownBlock = some k → w.heap.size ≤ k) := by
  unfold entryV
  have bR := boxed_row w t
  have W1 : (entryL t).toArray = #[.string t.name, .int .i64 (t.args.length : Int), .int .i64 (t.arg 0 : Int), .int .i64 (t.arg 1 : Int), .int .i64 (t.arg 2 : Int), .int .i64 (t.arg 3 : Int)] := rfl
  rw [W1] at bR ⊢
  clear W1
  obtain ⟨ea, ec, rfl⟩ := h.eform
  have hpl := h.bank.lt
  obtain ⟨Dn0, Df0, hq0, _⟩ := h.split
  have hnl := World.ownsMap.lt hq0.nums
  have hfl := World.ownsMap.lt hq0.fsts
  have hev : (Value.slice ea l.length ec).ownBlock ≠ some w.heap.size := fun e => by have := (h.rows.lt _ e).2; omega
  clear hq0
  go_enter Try.func144, Try.ntmps144
  go_wp2_with fail
  generalize hw1 : w.alloc (Obj.cells #[.string t.name, .int .i64 (t.args.length : Int), .int .i64 (t.arg 0 : Int), .int .i64 (t.arg 1 : Int), .int .i64 (t.arg 2 : Int), .int .i64 (t.arg 3 : Int)] 124) = w1 at bR ⊢
  have K1 : Kept0 w w1 := hw1 ▸ Kept.alloc (Kept.refl _ w) _
  have hsz1 : w.heap.size < w1.heap.size := bR.lt
  clear hw1
  have H1 := h.kept0 K1
  generalize hbx : w.heap.size = bx at *
  have hpb : ¬ p = bx := by omega
  have c1 := H1.c1
  have x0 := bR.c0
  have x1 := bR.c1
  have x2 := bR.c2
  have x3 := bR.c3
  have x4 := bR.c4
  have x5 := bR.c5
  have LN := fun m => (H1.drewN m).lookN ht
  rw [hi] at LN
  simp only [Option.getD_none, Option.isSome_none, entryV, entryL] at LN
  go_quiet (fail)
  clear LN x1 x2 x3 x4 x5 c1
  have bRd := fun m => (World.rowIs.of_block bR rfl : Boxed (w1.drewN m) bx t)
  go_wp2_with (go_at_call 164; go_loud (refine (clone_any _ _ ht.name).mono ?_; rintro e w2 ⟨rfl, K2⟩; have bR2 := Boxed.kept0 (bRd _) K2; have y0 := Boxed.c0 bR2; have f0 := World.rowIs.frozen bR2 0; have H2 := Bk.kept0 (H1.drewN _) K2; have z0 := H2.c0; have hpb' := hpb))
  have H3 := Bk.kept1 H2 (Kept1.set (Kept.refl _ w2) 0 (.string t.name) : Kept1 bx w2 _) hpb (by omega) (by omega) hev
  have K3 : Kept0 w (w2.setCell ⟨bx, 0, none⟩ (.string t.name)) := Kept.mono (S := fun k => k = bx) (Kept1.set (Kept.mono ((Kept.drewN K1 nq).trans K2) (fun _ _ x => x.elim)) 0 _) (fun k hk e => by omega)
  have b3 := Boxed.named bR2
  clear H1 H2 K1 K2 bR bR2 bRd y0 f0 z0 x0 hpb'
  generalize w2.setCell ⟨bx, 0, none⟩ (.string t.name) = w3 at *
  obtain ⟨Dn, Df, Q3, T3⟩ := H3.split
  clear H3
  have hb3 : base ≤ w3.heap.size := by have := K3.size; omega
  have y0 := b3.c0
  have y1 := b3.c1
  have y2 := b3.c2
  have y3 := b3.c3
  have y4 := b3.c4
  have y5 := b3.c5
  have c0 : w3.cell? ⟨p, 0, none⟩ = some (.slice ea l.length ec) := Q3.bank.cell (by omega)
  have A0 : ∀ m O, ((w3.drewN m).alloc O).cell? ⟨p, 0, none⟩ = some (.slice ea l.length ec) := fun m O => World.rowIs.cell (World.rowIs.alloc (World.rowIs.of_block Q3.bank rfl : (w3.drewN m).rowIs p 105 3 (bankC (.slice ea l.length ec) nb fb)) O) (by omega)
  have A1 : ∀ O, (w3.alloc O).cell? ⟨p, 0, none⟩ = some (.slice ea l.length ec) := fun O => World.rowIs.cell (World.rowIs.alloc Q3.bank O) (by omega)
  have OWN : ∀ m O, ((w3.drewN m).alloc O).ownsRow base 124 6 (.slice ea l.length ec) l.length (l.flatMap entryL) := fun m O => World.ownsRow.alloc (w := w3.drewN m) Q3.rows O
  have NEW := fun m => six_news w3 m t
  have hEL : entryL t = [.string t.name, .int .i64 (t.args.length : Int), .int .i64 (t.arg 0 : Int), .int .i64 (t.arg 1 : Int), .int .i64 (t.arg 2 : Int), .int .i64 (t.arg 3 : Int)] := rfl
  simp only [hEL] at NEW
  obtain ⟨i0, hi0, hz0, hz1, hz2⟩ := info_parts infoEntry
  go_region_law (refine step_append_here rfl (.tmp 34) (.tmp 36) 103 rfl base 124 i0 _ 6 56 Try.underlying103 hi0 hz0 hz1 hz2 rfl (by decide) _ l.length (l.flatMap entryL) (by simp [Act.eval]; rfl) (by exact OWN _ _) ⟨w3.heap.size, 0, none⟩ 1 1 [.string t.name, .int .i64 (t.args.length : Int), .int .i64 (t.arg 0 : Int), .int .i64 (t.arg 1 : Int), .int .i64 (t.arg 2 : Int), .int .i64 (t.arg 3 : Int)] (by simp [Act.eval]) rfl (by exact NEW _) (by simp [Value.oneCell']) (by unfold maxLen; omega) (by omega) (by simp; omega) ?_; intro v' w4 hown1 hgrow hloc; obtain ⟨Q4, K4, L4, kp1, kf1⟩ := Bq.appended Q3 _ _ t v' hown1 hgrow hloc; obtain ⟨b1, cap1, hv1⟩ := ownsRow_succ hown1; subst hv1)
  all_goals
    clear hown1 hgrow hloc kp1 kf1 A0 A1 OWN NEW y0 y1 y2 y3 y4 y5 c0
    go_wp2_with fail
    generalize hv5 : Value.slice (some (⟨b1, 0, none⟩ : Addr)) (l.length + 1) cap1 = v5 at *
    have b5 : Boxed (w4.setCell ⟨p, 0, none⟩ v5) bx t := World.rowIs.of_block b3 (K4.block bx (World.rowIs.lt b3) (fun x => by
      rcases x with x | x | x | x
      · exact hpb x.symm
      · omega
      · omega
      · exact hev x))
    generalize w4.setCell ⟨p, 0, none⟩ v5 = w5 at *
    have d1 : w5.cell? ⟨p, 1, none⟩ = some (.map (some nb)) := Q4.bank.cell (i := 1) (by omega)
    have y0 := b5.c0
    have y1 := b5.c1
    have y2 := b5.c2
    have y3 := b5.c3
    have y4 := b5.c4
    have y5 := b5.c5
    have hsn : Maps.size Dn < maxLen := by have := T3.nsize; unfold maxLen; omega
    obtain ⟨w6, hr6, Q6, K6⟩ := Bq.storeN Q4.drew ht (n := l.length) (by omega) hsn
    simp only [entryV, hEL] at hr6
    go_region
    clear hr6 y1 y2 y3 y4 y5 d1
    have b6 : Boxed w6 bx t := World.rowIs.of_block (World.rowIs.of_block b5 rfl : Boxed w5.drew bx t) (K6.block bx (World.rowIs.lt b5) (by omega))
    have y0 := b6.c0
    have d2 : w6.cell? ⟨p, 2, none⟩ = some (.map (some fb)) := Q6.bank.cell (i := 2) (by omega)
    have LF := fun m => Says.look (Q6.drewN m).fsts (T3.fsays t.name ht.name) sLaw Try.underlying102 (skey_of ht.name)
    cases hf : fst l t.name with
    | none =>
      rw [hf] at LF
      simp only [Option.getD_none, Option.isSome_none] at LF
      go_wp2_with fail
      go_quiet (fail)
      go_wp2_with fail
      clear LF
      have hsf : Maps.size Df < maxLen := by have := T3.fsize; have := cntF_le l; unfold maxLen; omega
      have z0 : ∀ m, (w6.drewN m).cell? ⟨bx, 0, none⟩ = some (.string t.name) := fun m => y0
      have z2 : ∀ m, (w6.drewN m).cell? ⟨p, 2, none⟩ = some (.map (some fb)) := fun m => d2
      obtain ⟨w7, hr7, Q7, K7⟩ := Bq.storeF (Q6.drewN (nq + 1)) ht.name (n := l.length) (by omega) hsf
      go_region
      all_goals
        go_wp2_with fail
        go_ret
        refine ⟨rfl, v5, Q7.whole (T3.snoc_new ht hi hf hlt (World.ownsMap.tidy Q3.nums tLaw) (World.ownsMap.tidy Q3.fsts sLaw)), ?_, ?_⟩
        · exact ((Kept.mono K3 (fun _ _ x => x.elim)).trans K4).drew.trans ((Kept.mono K6 (fun _ _ x => Or.inr (Or.inl x))).drewN _ |>.trans (Kept.mono K7 (fun _ _ x => Or.inr (Or.inr (Or.inl x)))))
        · exact L4.imp id (fun x k hk => Nat.le_trans K3.size (x k hk))
    | some i =>
      rw [hf] at LF
      simp only [Option.getD_some, Option.isSome_some] at LF
      go_wp2_with fail
      go_quiet (fail)
      go_wp2_with fail
      go_ret
      refine ⟨rfl, v5, (Q6.drewN _).whole (T3.snoc_old ht hi hf hlt (World.ownsMap.tidy Q3.nums tLaw)), ?_, ?_⟩
      · exact (((Kept.mono K3 (fun _ _ x => x.elim)).trans K4).drew.trans (Kept.mono K6 (fun _ _ x => Or.inr (Or.inl x)))).drewN _
      · exact L4.imp id (fun x k hk => Nat.le_trans K3.size (x k hk))

end Go.Proofs.Ytjfekcjhflcnaaa

namespace Go.Proofs.Ytjfekcjhflcnaaa
open Go.RowKit Go.Maps

theorem add_in (w : World) (base p : Nat) (ev : Value) (nb fb : Nat) (l : List Tm) (h : Bk w base p ev nb fb l) (t : Tm) (ht : t.ok) (hlt : l.length < 1000) (hbase : base ≤ w.heap.size) :
    Calls Try.prog 144 #[.pointer (some ⟨p, 0, none⟩), entryV t] w fun e w' => e = .returned (.int .i64 (addN l t : Int)) ∧ ∃ ev', Bk w' base p ev' nb fb (addL l t) ∧ Kept (BFoot p ev nb fb) w w' ∧ (ev'.ownBlock = ev.ownBlock ∨ ∀ k, ev'.ownBlock = some k → w.heap.size ≤ k) := by
  cases hi : nix l t with
  | some i =>
    refine (add_old w base p ev nb fb l h t ht i hi).mono ?_
    rintro e w' ⟨rfl, H, K⟩
    exact ⟨by simp [addN, hi], ev, by simpa [addL, hi] using H, Kept.mono K (fun _ _ x => x.elim), Or.inl rfl⟩
  | none =>
    refine (add_new w base p ev nb fb l h t ht hi hlt hbase).mono ?_
    rintro e w' ⟨rfl, ev', H, K, L⟩
    exact ⟨by simp [addN, hi], ev', by simpa [addL, hi] using H, K, L⟩

theorem Tells.empty : Tells [] (.map []) (.map []) :=
  ⟨rfl, fun t _ => ⟨rfl, rfl⟩, rfl, fun n _ => ⟨rfl, rfl⟩, by simp, List.nodup_nil, by simp⟩

theorem made_bank (w : World) : Bk (((w.alloc (Obj.map #[] 0)).alloc (Obj.map #[] 0)).alloc (Obj.cells #[.slice none 0 0, .map (some w.heap.size), .map (some (w.heap.size + 1))] 105)) w.heap.size (w.heap.size + 1 + 1) (.slice none 0 0) w.heap.size (w.heap.size + 1) [] := by
  have h1 : (w.alloc (Obj.map #[] 0)).heap.size = w.heap.size + 1 := by simp
  have h2 : ((w.alloc (Obj.map #[] 0)).alloc (Obj.map #[] 0)).heap.size = w.heap.size + 1 + 1 := by simp
  have m1 := World.ownsMap_made (H := Unit) w Try.prog 124 (plainElem Try.prog 3)
  have m2 := World.ownsMap_made (H := Unit) (w.alloc (Obj.map #[] 0)) Try.prog 9 (plainElem Try.prog 3)
  have r := made_row ((w.alloc (Obj.map #[] 0)).alloc (Obj.map #[] 0)) #[.slice none 0 0, .map (some w.heap.size), .map (some (w.heap.size + 1))] 105
  rw [h1] at m2
  rw [h2] at r
  refine Bq.whole (Dn := .map []) (Df := .map []) ⟨World.rowIs.congr r ?_, World.ownsRow_nil _ _ _ _, mapIs_of ((m1.alloc _).alloc _), mapIs_of (m2.alloc _), by omega, by omega, by omega, by simp [Value.ownBlock], by simp [Value.ownBlock], by simp [Value.ownBlock], by omega, by omega, by omega⟩ Tells.empty
  intro i hi
  have hi' : i < 3 := hi
  rcases (by omega : i = 0 ∨ i = 1 ∨ i = 2) with rfl | rfl | rfl <;> rfl

set_option maxHeartbeats 400000 in
theorem tNew_any (w : World) :
    Calls Try.prog 15 #[] w fun e w' => ∃ p nb fb, e = .returned (.pointer (some ⟨p, 0, none⟩)) ∧ Bk w' w.heap.size p (.slice none 0 0) nb fb [] ∧ Below w.heap.size w w' := by
  have hmm := @run_makeMap Try.prog
  go_enter Try.func15, Try.ntmps15
  go_wp2_with fail
  go_ret
  refine ⟨_, _, _, rfl, made_bank w, ?_⟩
  exact Kept.below (((Kept.refl (fun _ => False) w).alloc _ |>.alloc _).alloc _) (Nat.le_refl _) (fun _ x => x.elim)

end Go.Proofs.Ytjfekcjhflcnaaa

namespace Go.Proofs.Ytjfekcjhflcnaaa
open Go.RowKit Go.Maps

/-- Number i stands yet, when j terms behind the first s have been taken out. -/
def standsB (s j i : Nat) : Bool := decide (i < s ∨ s + j ≤ i)

structure Out (l r : List Tm) (j : Nat) (Dn Df : DataW Unit) : Prop where
  nsize : Maps.size Dn + j = (l ++ r).length
  nsays : ∀ t : Tm, t.ok → Says Dn (ekey t) ((nix (l ++ r) t).filter (standsB l.length j))
  fsize : Maps.size Df = ((List.range (l ++ r).length).filter (fun i => isF (l ++ r) i && standsB l.length j i)).length
  fsays : ∀ n : ByteArray, n.size ≤ 6 → Says Df (skey n) ((fst (l ++ r) n).filter (standsB l.length j))

theorem stands0 (s i : Nat) : standsB s 0 i = true := by unfold standsB; exact decide_eq_true (by omega)
theorem filter_all {α : Type} (p : α → Bool) (h : ∀ x, p x = true) (o : Option α) : o.filter p = o := by cases o <;> simp [Option.filter, h]

theorem Out.start {l r : List Tm} {Dn Df : DataW Unit} (T : Tells (l ++ r) Dn Df) : Out l r 0 Dn Df := by
  refine ⟨T.nsize, fun t ht => ?_, ?_, fun n hn => ?_⟩
  · rw [filter_all _ (stands0 _)]; exact T.nsays t ht
  · rw [T.fsize]
    unfold cntF
    congr 1
    exact List.filter_congr (fun i _ => by rw [stands0]; simp)
  · rw [filter_all _ (stands0 _)]; exact T.fsays n hn

theorem nix_some {l : List Tm} {t : Tm} {i : Nat} (h : nix l t = some i) : l[i]? = some t := by
  obtain ⟨hi, hp, _⟩ := List.findIdx?_eq_some_iff_getElem.1 h
  rw [List.getElem?_eq_getElem hi, of_decide_eq_true hp]

theorem nix_at {l : List Tm} (hd : l.Nodup) {i : Nat} {t : Tm} (h : l[i]? = some t) : nix l t = some i := by
  obtain ⟨hi, e⟩ := List.getElem?_eq_some_iff.1 h
  cases hx : nix l t with
  | none => exact absurd (e ▸ List.getElem_mem hi) (nix_none hx)
  | some k =>
    obtain ⟨hk, ek⟩ := List.getElem?_eq_some_iff.1 (nix_some hx)
    have := (List.getElem_inj hd (h₀ := hk) (h₁ := hi)).1 (ek.trans e.symm)
    rw [this]

theorem stands_step {s j i : Nat} (h : i ≠ s + j) : standsB s (j + 1) i = standsB s j i := by
  unfold standsB
  exact decide_eq_decide.2 (by omega)
theorem stands_gone (s j : Nat) : standsB s (j + 1) (s + j) = false := decide_eq_false (by omega)
theorem stands_here (s j : Nat) : standsB s j (s + j) = true := decide_eq_true (by omega)

theorem filter_step {o : Option Nat} {s j : Nat} (h : o ≠ some (s + j)) : o.filter (standsB s (j + 1)) = o.filter (standsB s j) := by
  cases o with
  | none => rfl
  | some i =>
    have hi : i ≠ s + j := fun e => h (by rw [e])
    simp [Option.filter, stands_step hi]

/-- One term of the map of numbers. -/
theorem Out.nstep {l r : List Tm} {j : Nat} {Dn Df : DataW Unit} (O : Out l r j Dn Df) (hd : (l ++ r).Nodup) {e : Tm} (he : r[j]? = some e) (ho : e.ok) (hD : Tidy Dn) :
    Maps.size (Dn.del (ekey e)) + (j + 1) = (l ++ r).length ∧ ∀ t : Tm, t.ok → Says (Dn.del (ekey e)) (ekey t) ((nix (l ++ r) t).filter (standsB l.length (j + 1))) := by
  have ha : (l ++ r)[l.length + j]? = some e := by rw [List.getElem?_append_right (by omega)]; simpa using he
  have hn := nix_at hd ha
  constructor
  · have h1 := size_del (k := ekey e) hD
    have h2 := (O.nsays e ho).1
    rw [hn] at h2
    simp [Option.filter, stands_here] at h2
    rw [h2] at h1
    have := O.nsize
    simp at h1
    omega
  · intro t ht
    by_cases h : t = e
    · subst h
      rw [hn]
      simp only [Option.filter, stands_gone]
      exact Says.del_same
    · have hne : nix (l ++ r) t ≠ some (l.length + j) := fun x => by
        have := nix_some x
        rw [ha] at this
        exact h (Option.some.inj this).symm
      rw [filter_step hne]
      exact (O.nsays t ht).del_other (fun x => h (ekey_inj ht ho x))

theorem filter_count {n : Nat} {p q : Nat → Bool} {k : Nat} (hk : k < n) (hp : p k = true) (hq : q k = false) (h : ∀ i, i ≠ k → q i = p i) : ((List.range n).filter q).length + 1 = ((List.range n).filter p).length := by
  induction n with
  | zero => omega
  | succ n ih =>
    rw [List.range_succ, List.filter_append, List.filter_append, List.length_append, List.length_append]
    by_cases e : k = n
    · subst e
      have e1 : (List.range k).filter q = (List.range k).filter p := List.filter_congr (fun i hi => h i (by have := List.mem_range.1 hi; omega))
      simp [e1, hp, hq]
    · have := ih (by omega)
      have hn : q n = p n := h n (fun x => e x.symm)
      simp only [List.filter_cons, hn, List.filter_nil]
      omega

theorem fst_at {l : List Tm} {n : ByteArray} {i : Nat} (h : fst l n = some i) {t : Tm} (ht : l[i]? = some t) : t.name = n := by
  obtain ⟨u, hu, hn⟩ := fst_some h
  rw [ht] at hu
  rw [Option.some.inj hu]
  exact hn

/-- The term's name had its first number here: it goes. -/
theorem Out.fgone {l r : List Tm} {j : Nat} {Dn Df : DataW Unit} (O : Out l r j Dn Df) {e : Tm} (he : r[j]? = some e) (ho : e.ok) (hf : fst (l ++ r) e.name = some (l.length + j)) (hD : Tidy Df) :
    Maps.size (Df.del (skey e.name)) = ((List.range (l ++ r).length).filter (fun i => isF (l ++ r) i && standsB l.length (j + 1) i)).length ∧
      ∀ n : ByteArray, n.size ≤ 6 → Says (Df.del (skey e.name)) (skey n) ((fst (l ++ r) n).filter (standsB l.length (j + 1))) := by
  have ha : (l ++ r)[l.length + j]? = some e := by rw [List.getElem?_append_right (by omega)]; simpa using he
  have hlt : l.length + j < (l ++ r).length := (List.getElem?_eq_some_iff.1 ha).1
  constructor
  · have h1 := size_del (k := skey e.name) hD
    have h2 := (O.fsays e.name ho.name).1
    rw [hf] at h2
    simp [Option.filter, stands_here] at h2
    rw [h2] at h1
    have h3 := O.fsize
    have h4 : isF (l ++ r) (l.length + j) = true := by unfold isF; rw [ha]; exact decide_eq_true hf
    have h5 := filter_count (p := fun i => isF (l ++ r) i && standsB l.length j i) (q := fun i => isF (l ++ r) i && standsB l.length (j + 1) i) hlt (by simp [h4, stands_here]) (by simp [stands_gone]) (fun i hi => by simp only [stands_step hi])
    simp only [if_true] at h1
    omega
  · intro n hn
    by_cases h : n = e.name
    · subst h
      rw [hf]
      simp only [Option.filter, stands_gone]
      exact Says.del_same
    · have hne : fst (l ++ r) n ≠ some (l.length + j) := fun x => h (fst_at x ha).symm
      rw [filter_step hne]
      exact (O.fsays n hn).del_other (fun x => h (skey_inj x))

/-- It had not: nothing goes. -/
theorem Out.fstays {l r : List Tm} {j : Nat} {Dn Df : DataW Unit} (O : Out l r j Dn Df) {e : Tm} (he : r[j]? = some e) (hf : fst (l ++ r) e.name ≠ some (l.length + j)) :
    Maps.size Df = ((List.range (l ++ r).length).filter (fun i => isF (l ++ r) i && standsB l.length (j + 1) i)).length ∧
      ∀ n : ByteArray, n.size ≤ 6 → Says Df (skey n) ((fst (l ++ r) n).filter (standsB l.length (j + 1))) := by
  have ha : (l ++ r)[l.length + j]? = some e := by rw [List.getElem?_append_right (by omega)]; simpa using he
  constructor
  · rw [O.fsize]
    congr 1
    apply List.filter_congr
    intro i _
    by_cases h : i = l.length + j
    · subst h
      have : isF (l ++ r) (l.length + j) = false := by unfold isF; rw [ha]; exact decide_eq_false hf
      simp [this]
    · rw [stands_step h]
  · intro n hn
    have hne : fst (l ++ r) n ≠ some (l.length + j) := fun x => hf (by rw [fst_at x ha]; exact x)
    rw [filter_step hne]
    exact O.fsays n hn

/-- What a look at the name says: whether the number is its first. -/
theorem look_first {l r : List Tm} {j : Nat} {e : Tm} (he : r[j]? = some e) :
    (((fst (l ++ r) e.name).filter (standsB l.length j)).getD 0 = l.length + j) ↔ fst (l ++ r) e.name = some (l.length + j) := by
  have ha : (l ++ r)[l.length + j]? = some e := by rw [List.getElem?_append_right (by omega)]; simpa using he
  obtain ⟨i, hi⟩ := fst_mem (List.mem_of_getElem? ha)
  rw [hi]
  by_cases h : standsB l.length j i = true
  · simp [Option.filter, h]
  · have h' : standsB l.length j i = false := by simpa using h
    simp only [Option.filter, h']
    have h2 := of_decide_eq_false h'
    simp
    omega

theorem nix_app (l r : List Tm) (t : Tm) : (nix (l ++ r) t).filter (standsB l.length r.length) = nix l t := by
  unfold nix
  rw [List.findIdx?_append]
  cases h : List.findIdx? (fun x => decide (x = t)) l with
  | some i =>
    have hi : i < l.length := (List.findIdx?_eq_some_iff_getElem.1 h).1
    have : standsB l.length r.length i = true := decide_eq_true (by omega)
    simp [Option.filter, this]
  | none =>
    cases h2 : List.findIdx? (fun x => decide (x = t)) r with
    | none => rfl
    | some k =>
      have hk : k < r.length := (List.findIdx?_eq_some_iff_getElem.1 h2).1
      have : standsB l.length r.length (k + l.length) = false := decide_eq_false (by omega)
      simp [Option.filter, this]

theorem fst_app (l r : List Tm) (n : ByteArray) : (fst (l ++ r) n).filter (standsB l.length r.length) = fst l n := by
  unfold fst
  rw [List.findIdx?_append]
  cases h : List.findIdx? (fun x => decide (x.name = n)) l with
  | some i =>
    have hi : i < l.length := (List.findIdx?_eq_some_iff_getElem.1 h).1
    have : standsB l.length r.length i = true := decide_eq_true (by omega)
    simp [Option.filter, this]
  | none =>
    cases h2 : List.findIdx? (fun x => decide (x.name = n)) r with
    | none => rfl
    | some k =>
      have hk : k < r.length := (List.findIdx?_eq_some_iff_getElem.1 h2).1
      have : standsB l.length r.length (k + l.length) = false := decide_eq_false (by omega)
      simp [Option.filter, this]

theorem isF_app (l r : List Tm) {i : Nat} (hi : i < l.length) : isF (l ++ r) i = isF l i := by
  unfold isF
  rw [List.getElem?_append_left hi, List.getElem?_eq_getElem hi]
  obtain ⟨k, hk⟩ := fst_mem (List.getElem_mem hi)
  have e : fst (l ++ r) l[i].name = fst l l[i].name := by
    rw [hk]
    unfold fst at hk ⊢
    rw [List.findIdx?_append, hk]
    rfl
  simp only [e]

theorem count_app (l r : List Tm) : ((List.range (l ++ r).length).filter (fun i => isF (l ++ r) i && standsB l.length r.length i)).length = cntF l := by
  unfold cntF
  rw [List.length_append, List.range_add, List.filter_append, List.length_append]
  have e1 : (List.range l.length).filter (fun i => isF (l ++ r) i && standsB l.length r.length i) = (List.range l.length).filter (isF l) := List.filter_congr (fun i hi => by
    have h := List.mem_range.1 hi
    have : standsB l.length r.length i = true := decide_eq_true (by omega)
    rw [isF_app l r h, this]; simp)
  have e2 : ((List.range r.length).map (fun x => l.length + x)).filter (fun i => isF (l ++ r) i && standsB l.length r.length i) = [] := List.filter_eq_nil_iff.2 (fun i hi => by
    obtain ⟨k, hk, rfl⟩ := List.mem_map.1 hi
    have h := List.mem_range.1 hk
    have : standsB l.length r.length (l.length + k) = false := decide_eq_false (by omega)
    simp [this])
  rw [e1, e2]
  simp

/-- All of r is taken out: what is left says l. -/
theorem Out.done {l r : List Tm} {Dn Df : DataW Unit} (O : Out l r r.length Dn Df) (ho : ∀ t ∈ l, t.ok) (hd : l.Nodup) (hs : l.length ≤ 1000) : Tells l Dn Df := by
  refine ⟨?_, fun t ht => ?_, ?_, fun n hn => ?_, ho, hd, hs⟩
  · have := O.nsize
    simp at this
    omega
  · rw [← nix_app l r]; exact O.nsays t ht
  · rw [O.fsize]; exact count_app l r
  · rw [← fst_app l r]; exact O.fsays n hn

end Go.Proofs.Ytjfekcjhflcnaaa

namespace Go.Proofs.Ytjfekcjhflcnaaa
open Go.RowKit Go.Maps

/-- A row by what is ahead of its cut. -/
def RowTo (w : World) (base g cap k : Nat) (xs : List Value) : Prop :=
  ∃ cur, base ≤ g ∧ w.heap[g]? = some (.cells cur 124 (0, 0)) ∧ cap ≤ maxLen ∧ cur.size = cap * 6 ∧ cur.toList.take (k * 6) = xs

theorem RowTo.owns {w : World} {base g cap k : Nat} {xs : List Value} (h : RowTo w base g cap k xs) (hk : k ≤ cap) : w.ownsRow base 124 6 (.slice (some ⟨g, 0, none⟩) k cap) k xs := by
  obtain ⟨cur, h1, h2, h3, h4, h5⟩ := h
  refine ⟨?_, Or.inr ⟨g, cap, cur, rfl, h1, h2, hk, h3, h4, h5⟩⟩
  rw [← h5, List.length_take]
  simp [h4]
  omega

theorem RowTo.of {w : World} {base g cap n : Nat} {xs : List Value} (h : w.ownsRow base 124 6 (.slice (some ⟨g, 0, none⟩) n cap) n xs) {k : Nat} (hk : k ≤ n) : RowTo w base g cap k (xs.take (k * 6)) ∧ n ≤ cap := by
  rcases h.2 with ⟨e, _⟩ | ⟨g', cap', cur, e, h1, h2, h3, h4, h5, h6⟩
  · cases e
  · injection e with e1 e2 e3
    injection e1 with e1
    injection e1 with e1 _ _
    subst e1
    subst e3
    refine ⟨⟨cur, h1, h2, h4, h5, ?_⟩, h3⟩
    rw [← h6, List.take_take]
    congr 1
    omega

theorem RowTo.set {w : World} {base g cap k : Nat} {xs : List Value} (h : RowTo w base g cap k xs) {o : Nat} (ho : k * 6 ≤ o) (u : Value) : RowTo (w.setCell ⟨g, o, none⟩ u) base g cap k xs := by
  obtain ⟨cur, h1, h2, h3, h4, h5⟩ := h
  refine ⟨cur.setIfInBounds o u, h1, ?_, h3, by simpa using h4, ?_⟩
  · rw [setCell_eq_setRow w g o cur _ (0, 0) _ h2, setRow_heap w g _ _ _ _ h2]
  · rw [← h5]
    simp [List.take_set]
    rw [List.set_eq_of_length_le]
    simp
    omega

theorem RowTo.sets {base g cap k : Nat} {xs : List Value} : ∀ (vs : List Value) (o : Nat) (w : World), RowTo w base g cap k xs → k * 6 ≤ o → RowTo (w.setCells g o vs) base g cap k xs
  | [], _, _, h, _ => h
  | v :: vs, o, w, h, ho => RowTo.sets vs (o + 1) (w.setCell ⟨g, o, none⟩ v) (h.set ho v) (by omega)

/-- 'clear(s)' of elements of several cells. -/
theorem run_clear_many {P : Program} (w : World) (t e ty : TypeId) (z : Value) (ht : P.underlying t = some (.slice e)) (hv : ∀ w, (zeroValue e).run P w = .ok z w) (b o n c : Nat) (hn : 0 < n) (vs : List Value) (hvs : (Builtin.zeroCells z.cells n).toList = vs) (h1 : ∀ v ∈ vs, v.oneCell' = true)
    (hc : ∀ j, j < vs.length → (w.cell? ⟨b, o + j, none⟩).isSome = true) (hf : ∀ j, j < vs.length → w.frozen? ⟨b, o + j, none⟩ = false) :
    (Builtin.clear_ #[t] ty #[.slice (some ⟨b, o, none⟩) n c]).run P w = .ok (.tuple #[]) (w.setCells b o vs) := by
  have hst := run_storeCells_cells (P := P) b o vs 0 w (by simpa using hc) (by simpa using hf) h1
  simp only [Nat.add_zero] at hst
  obtain ⟨m, rfl⟩ : ∃ m, n = m + 1 := ⟨n - 1, by omega⟩
  simp [Builtin.clear_, run_underlying ht, hv, hvs, hst]

end Go.Proofs.Ytjfekcjhflcnaaa

namespace Go.Proofs.Ytjfekcjhflcnaaa
open Go.RowKit Go.Maps

/-- 'firsts[n]' without ok. -/
theorem Says.look1 {w : World} {k t : TypeId} {b : Nat} {D : DataW Unit} {key : Value} {kl : Lit} {o : Option Nat} (h : mapIs w k b D) (S : Says D kl o) (K : Keyed Try.prog k) (ht : Try.prog.underlying t = some (.map k 3)) (hkey : keyOf Try.prog k key = some kl) :
    (Instr.lookup t (.map (some b)) key false).run Try.prog w = .ok (.int .i64 ((o.getD 0 : Nat) : Int)) w := by
  obtain ⟨c, hrun, hat, _⟩ := World.ownsMap.lookup_int h K ht Try.underlying3 (zeroI w) hkey
  rw [S.2] at hat
  simp at hat
  rw [hrun, hat]

theorem Bq.dropN {w : World} {base p : Nat} {ev : Value} {nb fb : Nat} {l : List Tm} {Dn Df : DataW Unit} (h : Bq w base p ev nb fb l Dn Df) {t : Tm} (ht : t.ok) (ty : TypeId) :
    ∃ w', (Builtin.delete_ #[101, 124] ty #[.map (some nb), entryV t]).run Try.prog w = .ok (.tuple #[]) w' ∧ Bq w' base p ev nb fb l (Dn.del (ekey t)) Df ∧ Kept1 nb w w' := by
  obtain ⟨w', hr, ho, hturn⟩ := World.ownsMap.drop h.nums tLaw Try.underlying101 (ekey_of ht) ty
  have g := hturn.grown
  exact ⟨w', hr, ⟨h.bank.of_block (g.block p h.bank.lt (by simpa using h.pn)), h.rows.kept g (Or.inr h.en), mapIs_of ho, World.ownsMap.kept h.fsts g (by simpa using Ne.symm h.nf), h.pn, h.pf, h.nf, h.ep, h.en, h.ef, h.bp, h.bn, h.bf⟩, Kept1.of_grown g⟩

theorem Bq.dropF {w : World} {base p : Nat} {ev : Value} {nb fb : Nat} {l : List Tm} {Dn Df : DataW Unit} (h : Bq w base p ev nb fb l Dn Df) {s : ByteArray} (ht : s.size ≤ 6) (ty : TypeId) :
    ∃ w', (Builtin.delete_ #[102, 9] ty #[.map (some fb), .string s]).run Try.prog w = .ok (.tuple #[]) w' ∧ Bq w' base p ev nb fb l Dn (Df.del (skey s)) ∧ Kept1 fb w w' := by
  obtain ⟨w', hr, ho, hturn⟩ := World.ownsMap.drop h.fsts sLaw Try.underlying102 (skey_of ht) ty
  have g := hturn.grown
  exact ⟨w', hr, ⟨h.bank.of_block (g.block p h.bank.lt (by simpa using h.pf)), h.rows.kept g (Or.inr h.ef), World.ownsMap.kept h.nums g (by simpa using h.nf), mapIs_of ho, h.pn, h.pf, h.nf, h.ep, h.en, h.ef, h.bp, h.bn, h.bf⟩, Kept1.of_grown g⟩

theorem Bq.at {w : World} {base p : Nat} {ev : Value} {nb fb : Nat} {l : List Tm} {Dn Df : DataW Unit} (h : Bq w base p ev nb fb l Dn Df) {i : Nat} {t : Tm} (hi : l[i]? = some t) :
    ∃ g cap, ev = .slice (some ⟨g, 0, none⟩) l.length cap ∧ ∀ j u, (entryL t)[j]? = some u → w.cell? ⟨g, i * 6 + j, none⟩ = some u := by
  have hlt : i < l.length := (List.getElem?_eq_some_iff.1 hi).1
  rcases h.rows.2 with ⟨e, h0⟩ | ⟨b, cap, cur, e, _⟩
  · omega
  · refine ⟨b, cap, e, fun j u hj => ?_⟩
    have hj6 : j < 6 := by have := (List.getElem?_eq_some_iff.1 hj).1; simpa [entryL] using this
    have := h.rows.cells (g := b) (by rw [e]; rfl) (i * 6 + j) u (by rw [flat_getElem l i j hj6, hi]; exact hj)
    simp [Addr.add] at this
    split at this
    · next e0 => rw [e0.1, e0.2]; exact this
    · exact this

theorem Bq.grown {w w' : World} {base p : Nat} {ev : Value} {nb fb : Nat} {l : List Tm} {Dn Df : DataW Unit} {row : Option Nat} (h : Bq w base p ev nb fb l Dn Df) (K : w.grownBy w' row) (hp : some p ≠ row) (hn : some nb ≠ row) (hf : some fb ≠ row) (he : row = none ∨ ev.ownBlock ≠ row) : Bq w' base p ev nb fb l Dn Df :=
  ⟨h.bank.of_block (K.block p h.bank.lt hp), h.rows.kept K (he.elim (fun e => e ▸ Decidable.em (ev.ownBlock = none)) Or.inr), World.ownsMap.kept h.nums K hn, World.ownsMap.kept h.fsts K hf, h.pn, h.pf, h.nf, h.ep, h.en, h.ef, h.bp, h.bn, h.bf⟩
theorem Bq.kept0 {w w' : World} {base p : Nat} {ev : Value} {nb fb : Nat} {l : List Tm} {Dn Df : DataW Unit} (h : Bq w base p ev nb fb l Dn Df) (K : Kept0 w w') : Bq w' base p ev nb fb l Dn Df :=
  h.grown K.grownBy (by simp) (by simp) (by simp) (Or.inl rfl)

theorem Kept.setCells {S : Nat → Prop} {a : World} {g : Nat} (hg : S g) : ∀ (vs : List Value) (o : Nat) (w : World), Kept S a w → Kept S a (w.setCells g o vs)
  | [], _, _, h => h
  | v :: vs, o, _, h => Kept.setCells hg vs (o + 1) _ (Kept.setCell (p := ⟨g, o, none⟩) h hg v)

theorem flat_take (l r : List Tm) : ((l ++ r).flatMap entryL).take (l.length * 6) = l.flatMap entryL := by
  have hl : (l.flatMap entryL).length = l.length * 6 := by
    induction l with
    | nil => rfl
    | cons t l ih => rw [List.flatMap_cons, List.length_append, ih]; simp [entryL]; omega
  rw [List.flatMap_append, ← hl, List.take_left]

/-- The row is cut behind l. -/
theorem Bq.cut {w : World} {base p g ec : Nat} {nb fb : Nat} {l r : List Tm} {Dn Df : DataW Unit} (h : Bq w base p (.slice (some ⟨g, 0, none⟩) (l ++ r).length ec) nb fb (l ++ r) Dn Df) (vs : List Value) :
    Bq ((w.setCells g (l.length * 6) vs).setCell ⟨p, 0, none⟩ (.slice (some ⟨g, 0, none⟩) l.length ec)) base p (.slice (some ⟨g, 0, none⟩) l.length ec) nb fb l Dn Df ∧
      Kept (BFoot p (.slice (some ⟨g, 0, none⟩) (l ++ r).length ec) nb fb) w ((w.setCells g (l.length * 6) vs).setCell ⟨p, 0, none⟩ (.slice (some ⟨g, 0, none⟩) l.length ec)) ∧
      (w.setCells g (l.length * 6) vs).cell? ⟨p, 0, none⟩ = some (.slice (some ⟨g, 0, none⟩) (l ++ r).length ec) ∧ (w.setCells g (l.length * 6) vs).frozen? ⟨p, 0, none⟩ = false := by
  obtain ⟨R0, hle⟩ := RowTo.of h.rows (k := l.length) (by simp)
  rw [flat_take] at R0
  have R1 := RowTo.sets vs (l.length * 6) w R0 (Nat.le_refl _)
  have hgp : p ≠ g := fun e => h.ep (by rw [e]; rfl)
  have hgn : nb ≠ g := fun e => h.en (by rw [e]; rfl)
  have hgf : fb ≠ g := fun e => h.ef (by rw [e]; rfl)
  have K1 : Kept1 g w (w.setCells g (l.length * 6) vs) := Kept.setCells (S := fun k => k = g) rfl vs _ w (Kept.refl _ w)
  have hb : (w.setCells g (l.length * 6) vs).rowIs p 105 3 (bankC (.slice (some ⟨g, 0, none⟩) (l ++ r).length ec) nb fb) := h.bank.of_block (K1.block p h.bank.lt hgp)
  have n1 : mapIs (w.setCells g (l.length * 6) vs) 124 nb Dn := World.ownsMap.kept h.nums K1.grownBy (by simpa using hgn)
  have f1 : mapIs (w.setCells g (l.length * 6) vs) 9 fb Df := World.ownsMap.kept h.fsts K1.grownBy (by simpa using hgf)
  have r1 := R1.owns (by simp at hle; omega)
  refine ⟨⟨(hb.set 0 _).congr ?_, ownsRow_setCell_other (a := ⟨p, 0, none⟩) r1 h.ep _, World.ownsMap.setCell n1 (Ne.symm h.pn) _, World.ownsMap.setCell f1 (Ne.symm h.pf) _, h.pn, h.pf, h.nf, h.ep, h.en, h.ef, h.bp, h.bn, h.bf⟩, ?_, hb.cell (i := 0) (by omega), hb.frozen 0⟩
  · intro i hi
    rcases (by omega : i = 0 ∨ i = 1 ∨ i = 2) with rfl | rfl | rfl <;> simp [bankC]
  · exact Kept.setCell (S := BFoot p (.slice (some ⟨g, 0, none⟩) (l ++ r).length ec) nb fb) (p := ⟨p, 0, none⟩) (Kept.mono K1 (fun k _ x => Or.inr (Or.inr (Or.inr (by rw [x]; rfl))))) (Or.inl rfl) _

theorem Bq.reset {w : World} {base p : Nat} {ev : Value} {nb fb : Nat} {l : List Tm} {Dn Df : DataW Unit} (h : Bq w base p ev nb fb l Dn Df) : Bq (w.setCell ⟨p, 0, none⟩ ev) base p ev nb fb l Dn Df := by
  refine ⟨(h.bank.set 0 ev).congr ?_, ownsRow_setCell_other (a := ⟨p, 0, none⟩) h.rows h.ep _, World.ownsMap.setCell h.nums (Ne.symm h.pn) _, World.ownsMap.setCell h.fsts (Ne.symm h.pf) _, h.pn, h.pf, h.nf, h.ep, h.en, h.ef, h.bp, h.bn, h.bf⟩
  intro i hi
  rcases (by omega : i = 0 ∨ i = 1 ∨ i = 2) with rfl | rfl | rfl <;> simp [bankC]

theorem RowTo.row {w : World} {base g cap k : Nat} {xs : List Value} (h : RowTo w base g cap k xs) : ∃ f, w.rowIs g 124 (cap * 6) f := by
  obtain ⟨cur, _, h2, _, h4, _⟩ := h
  refine ⟨fun i => cur[i]?.getD undef, cur, h2, h4, ?_⟩
  intro i hi
  have hc : i < cur.size := by omega
  simp [Array.getElem?_eq_getElem hc]

theorem zeros_one (n : Nat) : ∀ v ∈ (Builtin.zeroCells (Value.agg #[.string ⟨#[]⟩, .int .i64 0, .int .i64 0, .int .i64 0, .int .i64 0, .int .i64 0]).cells n).toList, v.oneCell' = true := by
  intro v hv
  simp [Builtin.zeroCells, Value.cells] at hv
  obtain ⟨i, _, rfl⟩ := hv
  rcases (by omega : i % 6 = 0 ∨ i % 6 = 1 ∨ i % 6 = 2 ∨ i % 6 = 3 ∨ i % 6 = 4 ∨ i % 6 = 5) with e | e | e | e | e | e <;> rw [e] <;> rfl
theorem zeros_len (n : Nat) : (Builtin.zeroCells (Value.agg #[.string ⟨#[]⟩, .int .i64 0, .int .i64 0, .int .i64 0, .int .i64 0, .int .i64 0]).cells n).toList.length = n * 6 := by
  simp [Builtin.zeroCells, Value.cells]

theorem run_clear_none {P : Program} (w : World) (t e ty : TypeId) (ht : P.underlying t = some (.slice e)) (a : Option Addr) (c : Nat) : (Builtin.clear_ #[t] ty #[.slice a 0 c]).run P w = .ok (.tuple #[]) w := by
  cases a <;> simp [Builtin.clear_, run_underlying ht]

set_option maxHeartbeats 1000000 in
theorem takeOut_in (w : World) (base p : Nat) (ev : Value) (nb fb : Nat) (l r : List Tm) (h : Bk w base p ev nb fb (l ++ r)) :
    Calls Try.prog 109 #[.pointer (some ⟨p, 0, none⟩), .int .i64 (l.length : Int)] w fun e w' => e = .returned (.tuple #[]) ∧ ∃ ev', Bk w' base p ev' nb fb l ∧ ev'.ownBlock = ev.ownBlock ∧ Kept (BFoot p ev nb fb) w w' := by
  have hsm := h.small
  have hoks := h.oks
  have hnd := h.nodup
  obtain ⟨ea, ec, rfl⟩ := h.eform
  obtain ⟨Dn, Df, hq, T⟩ := h.split
  clear h
  rw [List.length_append] at hsm
  go_enter Try.func109, Try.ntmps109
  go_wp2_with fail
  go_loopw [4] (fun t W => ∃ j : Nat, j ≤ r.length ∧ t = .int .i64 ((l.length + j : Nat) : Int) ∧ ∃ Dn Df, Bq W base p (.slice ea (l ++ r).length ec) nb fb (l ++ r) Dn Df ∧ Out l r j Dn Df ∧ Hid (Kept (BFoot p (.slice ea (l ++ r).length ec) nb fb) w W)) (fun t _ => (l ++ r).length - (intOf t).toNat)
  case atStart => exact ⟨0, by omega, by simp, Dn, Df, hq, Out.start T, Kept.refl _ w⟩
  case round =>
    clear hq T Dn Df
    obtain ⟨j, hj, rfl, Dn, Df, Q, O, K⟩ := hrel
    have c0 : wr.cell? ⟨p, 0, none⟩ = some (.slice ea (l ++ r).length ec) := Q.bank.cell (by omega)
    have c1 : wr.cell? ⟨p, 1, none⟩ = some (.map (some nb)) := Q.bank.cell (i := 1) (by omega)
    have c2 : wr.cell? ⟨p, 2, none⟩ = some (.map (some fb)) := Q.bank.cell (i := 2) (by omega)
    have hll : (l ++ r).length = l.length + r.length := List.length_append
    by_cases hjr : j < r.length
    · have hre : r[j]? = some r[j] := List.getElem?_eq_getElem hjr
      generalize hgen : r[j] = e at hre
      have hae : (l ++ r)[l.length + j]? = some e := by rw [List.getElem?_append_right (by omega)]; simpa using hre
      have hok : e.ok := hoks e (List.mem_of_getElem? hae)
      obtain ⟨g, cap, hgc, hg⟩ := Q.at hae
      injection hgc with hg1 _ hg3
      subst hg1
      subst hg3
      have g0 : wr.cell? ⟨g, (l.length + j) * 6, none⟩ = some (.string e.name) := hg 0 _ rfl
      have g1 := hg 1 _ rfl
      have g2 := hg 2 _ rfl
      have g3 := hg 3 _ rfl
      have g4 := hg 4 _ rfl
      have g5 := hg 5 _ rfl
      clear hg
      go_wp2_with fail
      clear g0 g1 g2 g3 g4 g5 c0 c1 c2
      have bR := boxed_row wr e
      have hEL : (entryL e).toArray = #[.string e.name, .int .i64 (e.args.length : Int), .int .i64 (e.arg 0 : Int), .int .i64 (e.arg 1 : Int), .int .i64 (e.arg 2 : Int), .int .i64 (e.arg 3 : Int)] := rfl
      rw [hEL] at bR
      generalize hw1 : wr.alloc (Obj.cells #[.string e.name, .int .i64 (e.args.length : Int), .int .i64 (e.arg 0 : Int), .int .i64 (e.arg 1 : Int), .int .i64 (e.arg 2 : Int), .int .i64 (e.arg 3 : Int)] 124) = w1 at bR ⊢
      have K1 : Kept0 wr w1 := hw1 ▸ Kept.alloc (Kept.refl _ wr) _
      clear hw1
      have Q1 := Q.kept0 K1
      have hnl := World.ownsMap.lt Q.nums
      have hfl := World.ownsMap.lt Q.fsts
      generalize wr.heap.size = bx at *
      have c1 : w1.cell? ⟨p, 1, none⟩ = some (.map (some nb)) := Q1.bank.cell (i := 1) (by omega)
      have y0 := bR.c0
      have y1 := bR.c1
      have y2 := bR.c2
      have y3 := bR.c3
      have y4 := bR.c4
      have y5 := bR.c5
      obtain ⟨w2, hr2, Q2, K2⟩ := Bq.dropN Q1.drew hok 0
      simp only [entryV, hEL] at hr2
      go_region
      clear hr2 y0 y1 y2 y3 y4 y5 c1
      have b2 : Boxed w2 bx e := World.rowIs.of_block (World.rowIs.of_block bR rfl : Boxed w1.drew bx e) (K2.block bx (World.rowIs.lt bR) (by omega))
      have y0 := b2.c0
      have c2 : w2.cell? ⟨p, 2, none⟩ = some (.map (some fb)) := Q2.bank.cell (i := 2) (by omega)
      have LF := fun m => Says.look1 (Q2.drewN m).fsts (O.fsays e.name hok.name) sLaw Try.underlying102 (skey_of hok.name)
      have hlook := look_first (l := l) hre
      obtain ⟨N1, N2⟩ := O.nstep hnd hre hok (World.ownsMap.tidy Q.nums tLaw)
      generalize ((fst (l ++ r) e.name).filter (standsB l.length j)).getD 0 = f at *
      have KK : Kept (BFoot p (.slice (some ⟨g, 0, none⟩) (l ++ r).length ec) nb fb) w w2 := ((Kept.trans K (Kept.mono K1 (fun _ _ x => x.elim))).drew).trans (Kept.mono K2 (fun _ _ x => Or.inr (Or.inl x)))
      by_cases hf : f = l.length + j
      · have hf1 := hlook.1 hf
        have hb : ((f : Int) == (l.length : Int) + (j : Int)) = true := by simp; omega
        go_wp2_with fail
        go_quiet (fail)
        go_wp2_with fail
        have z0 : ∀ m, (w2.drewN m).cell? ⟨bx, 0, none⟩ = some (.string e.name) := fun m => y0
        have z2 : ∀ m, (w2.drewN m).cell? ⟨p, 2, none⟩ = some (.map (some fb)) := fun m => c2
        obtain ⟨F1, F2⟩ := O.fgone hre hok hf1 (World.ownsMap.tidy Q.fsts sLaw)
        obtain ⟨w3, hr3, Q3, K3⟩ := Bq.dropF (Q2.drewN (nq + 1)) hok.name 0
        go_region
        all_goals
          go_wp2_with fail
          refine ⟨⟨j + 1, by omega, by simp; omega, _, _, Q3, ⟨N1, N2, F1, F2⟩, (Kept.drewN KK _).trans (Kept.mono K3 (fun _ _ x => Or.inr (Or.inr (Or.inl x))))⟩, ?_⟩
          simp only [intOf]
          omega
      · have hf1 : fst (l ++ r) e.name ≠ some (l.length + j) := fun x => hf (hlook.2 x)
        have hb : ((f : Int) == (l.length : Int) + (j : Int)) = false := by simp; omega
        go_wp2_with fail
        go_quiet (fail)
        go_wp2_with fail
        obtain ⟨F1, F2⟩ := O.fstays hre hf1
        refine ⟨⟨j + 1, by omega, by simp; omega, _, _, Q2.drewN nq, ⟨N1, N2, F1, F2⟩, Kept.drewN KK nq⟩, ?_⟩
        simp only [intOf]
        omega
    · have hjr' : j = r.length := by omega
      subst hjr'
      have TT := O.done (fun t ht => hoks t (List.mem_append_left r ht)) (List.nodup_append.1 hnd).1 (by omega)
      have f0 := Q.bank.frozen 0
      rcases Q.rows.2 with ⟨ee, h0⟩ | ⟨g, cap, cur, ee, _, _, hcap, hcm, _⟩
      · have hl0 : l = [] := List.eq_nil_of_length_eq_zero (by rw [hll] at h0; omega)
        have hr0 : r = [] := List.eq_nil_of_length_eq_zero (by rw [hll] at h0; omega)
        subst hl0
        subst hr0
        injection ee with e1 e2 e3
        subst e1
        subst e3
        have hcl := fun (a : Option Addr) (c : Nat) => run_clear_none (P := Try.prog) wr 103 124 0 Try.underlying103 a c
        go_wp2_with fail
        go_end0
        exact ⟨rfl, _, (Q.reset).whole TT, rfl, Kept.setCell (p := ⟨p, 0, none⟩) K (Or.inl rfl) _⟩
      · injection ee with e1 e2 e3
        subst e1
        subst e3
        obtain ⟨C1, C2, C3, C4⟩ := Q.cut []
        by_cases hr0 : r.length = 0
        · have hcl := fun (a : Option Addr) (c : Nat) => run_clear_none (P := Try.prog) wr 103 124 0 Try.underlying103 a c
          have hr00 : r = [] := List.eq_nil_of_length_eq_zero hr0
          subst hr00
          by_cases hec : l.length = ec
          · subst hec
            go_wp2_with fail
            go_end0
            exact ⟨rfl, _, C1.whole TT, rfl, Kept.trans K C2⟩
          · go_wp2_with fail
            go_end0
            exact ⟨rfl, _, C1.whole TT, rfl, Kept.trans K C2⟩
        · clear C1 C2 C3 C4
          have hcap' : l.length < ec := by rw [hll] at hcap; omega
          obtain ⟨FF, HF⟩ := (RowTo.of Q.rows (k := 0) (by omega)).1.row
          have CL : (Builtin.clear_ #[103] 0 #[.slice (some ⟨g, l.length * 6, none⟩) r.length (ec - l.length)]).run Try.prog wr = .ok (.tuple #[]) (wr.setCells g (l.length * 6) (Builtin.zeroCells (Value.agg #[.string ⟨#[]⟩, .int .i64 0, .int .i64 0, .int .i64 0, .int .i64 0, .int .i64 0]).cells r.length).toList) :=
            run_clear_many wr 103 124 0 _ Try.underlying103 Try.zeroValue124 g (l.length * 6) r.length _ (by omega) _ rfl (zeros_one _) (fun i hi => by rw [zeros_len] at hi; rw [World.rowIs.cell HF (by rw [hll] at hcap; omega)]; rfl) (fun i _ => World.rowIs.frozen HF _)
          generalize (Builtin.zeroCells (Value.agg #[.string ⟨#[]⟩, .int .i64 0, .int .i64 0, .int .i64 0, .int .i64 0, .int .i64 0]).cells r.length).toList = vs at CL
          obtain ⟨C1, C2, C3, C4⟩ := Q.cut vs
          have hne : ¬ l.length = ec := by omega
          go_wp2_with fail
          go_end0
          exact ⟨rfl, _, C1.whole TT, rfl, Kept.trans K C2⟩

end Go.Proofs.Ytjfekcjhflcnaaa

namespace Go.Proofs.Ytjfekcjhflcnaaa
open Go.RowKit Go.Maps

/-- What reading answers: a value and where it goes on, or an error and its place; the bank's terms behind it. -/
inductive Res (α : Type) where
  | ok (x : α) (i : Nat) (l : List Tm)
  | bad (e p : Nat) (l : List Tm)

def Res.list {α : Type} : Res α → List Tm
  | .ok _ _ l => l
  | .bad _ _ l => l

/-- A term has ended: its name began at p. -/
def pEnd (t : Tm) (p i : Nat) (l : List Tm) : Res Nat := if fitsB l t then .ok (addN l t) i (addL l t) else .bad 5 p l

mutual
def pTerm (s : ByteArray) : Nat → Nat → Nat → List Tm → Res Nat
  | 0, _, _, l => .bad 0 0 l
  | f + 1, above, i, l =>
    if badNm s i then .bad 2 i l
    else if 12 < above then .bad 4 i l
    else if stands s (bl s (nmE s i)) 40 then
      match pArgs s f (above + 1) (behind s (bl s (nmE s i)) 40) l [] with
      | .bad e p l' => .bad e p l'
      | .ok xs k l' => pEnd ⟨s.extract i (nmE s i), xs⟩ i k l'
    else pEnd ⟨s.extract i (nmE s i), []⟩ i (bl s (nmE s i)) l
def pArgs (s : ByteArray) : Nat → Nat → Nat → List Tm → List Nat → Res (List Nat)
  | 0, _, _, l, _ => .bad 0 0 l
  | f + 1, above, i, l, xs =>
    if i = s.size then .bad 2 i l
    else if xs.length = 4 then .bad 3 i l
    else match pTerm s f above i l with
      | .bad e p l' => .bad e p l'
      | .ok n k l' =>
        if stands s k 41 then .ok (xs ++ [n]) (behind s k 41) l'
        else if stands s k 44 then pArgs s f above (behind s k 44) l' (xs ++ [n])
        else .bad 2 k l'
end

theorem addL_prefix (l : List Tm) (t : Tm) : l <+: addL l t := by
  unfold addL
  split
  · exact List.prefix_refl l
  · exact List.prefix_append l [t]
theorem pEnd_prefix (t : Tm) (p i : Nat) (l : List Tm) : l <+: (pEnd t p i l).list := by
  unfold pEnd
  split
  · exact addL_prefix l t
  · exact List.prefix_refl l

theorem behind_le {s : ByteArray} {i c : Nat} (h : i ≤ s.size) : behind s i c ≤ s.size := by
  unfold behind
  split
  · next hs => exact bl_le (of_decide_eq_true hs).1
  · exact h
theorem behind_lt {s : ByteArray} {i c : Nat} (h : stands s i c = true) : i < behind s i c := by
  rw [behind_true h]
  have := bl_ge s (i + 1)
  omega
theorem nm_lt {s : ByteArray} {i : Nat} (h : badNm s i = false) : i < nmE s i := by
  have h1 := nmE_ge s i
  have h2 : nmE s i ≠ i := fun e => by simp [badNm, e] at h
  omega

/-- The list grows at its end alone; the places grow. -/
theorem p_grows (s : ByteArray) : ∀ f : Nat, (∀ above i l, i ≤ s.size → l <+: (pTerm s f above i l).list ∧ ∀ n k l', pTerm s f above i l = .ok n k l' → i < k ∧ k ≤ s.size) ∧
    (∀ above i l xs, i ≤ s.size → l <+: (pArgs s f above i l xs).list ∧ ∀ x k l', pArgs s f above i l xs = .ok x k l' → i < k ∧ k ≤ s.size)
  | 0 => ⟨fun _ _ l _ => ⟨by rw [pTerm]; exact List.prefix_refl l, fun _ _ _ e => by rw [pTerm] at e; cases e⟩, fun _ _ l _ _ => ⟨by rw [pArgs]; exact List.prefix_refl l, fun _ _ _ e => by rw [pArgs] at e; cases e⟩⟩
  | f + 1 => by
    obtain ⟨IT, IA⟩ := p_grows s f
    constructor
    · intro above i l hi
      rw [pTerm]
      split
      · exact ⟨List.prefix_refl l, fun _ _ _ e => by cases e⟩
      · next hb =>
        have hb' : badNm s i = false := by simpa using hb
        have h1 := nm_lt hb'
        have h2 := nmE_le hi
        have h3 := bl_ge s (nmE s i)
        have h4 := bl_le h2
        split
        · exact ⟨List.prefix_refl l, fun _ _ _ e => by cases e⟩
        · split
          · next hs =>
            have h5 := behind_lt hs
            have h6 := behind_le (c := 40) h4
            obtain ⟨A1, A2⟩ := IA (above + 1) (behind s (bl s (nmE s i)) 40) l [] h6
            split
            · next e p l' hx => rw [hx] at A1; exact ⟨A1, fun _ _ _ e => by cases e⟩
            · next xs k l' hx =>
              rw [hx] at A1
              obtain ⟨B1, B2⟩ := A2 xs k l' hx
              refine ⟨A1.trans (pEnd_prefix _ _ _ _), fun n k' l2 e => ?_⟩
              unfold pEnd at e
              split at e
              · injection e with e1 e2 e3; omega
              · cases e
          · refine ⟨pEnd_prefix _ _ _ _, fun n k' l2 e => ?_⟩
            unfold pEnd at e
            split at e
            · injection e with e1 e2 e3; omega
            · cases e
    · intro above i l xs hi
      rw [pArgs]
      split
      · exact ⟨List.prefix_refl l, fun _ _ _ e => by cases e⟩
      · split
        · exact ⟨List.prefix_refl l, fun _ _ _ e => by cases e⟩
        · obtain ⟨A1, A2⟩ := IT above i l hi
          split
          · next e p l' hx => rw [hx] at A1; exact ⟨A1, fun _ _ _ e => by cases e⟩
          · next n k l' hx =>
            rw [hx] at A1
            obtain ⟨B1, B2⟩ := A2 n k l' hx
            split
            · next hs =>
              have h5 := behind_lt hs
              have h6 := behind_le (c := 41) B2
              refine ⟨A1, fun x k' l2 e => ?_⟩
              injection e with e1 e2 e3
              omega
            · split
              · next hs =>
                have h5 := behind_lt hs
                obtain ⟨C1, C2⟩ := IA above (behind s k 44) l' (xs ++ [n]) (behind_le B2)
                refine ⟨A1.trans C1, fun x k' l2 e => ?_⟩
                obtain ⟨D1, D2⟩ := C2 x k' l2 e
                omega
              · exact ⟨A1, fun _ _ _ e => by cases e⟩

end Go.Proofs.Ytjfekcjhflcnaaa

namespace Go.Proofs.Ytjfekcjhflcnaaa
open Go.RowKit Go.Maps

theorem nix_lt {l : List Tm} {t : Tm} {i : Nat} (h : nix l t = some i) : i < l.length := (List.findIdx?_eq_some_iff_getElem.1 h).1
theorem addN_lt (l : List Tm) (t : Tm) : addN l t < (addL l t).length := by
  unfold addN addL
  cases hi : nix l t with
  | some i => simpa using nix_lt hi
  | none => simp
theorem addL_len (l : List Tm) (t : Tm) : (addL l t).length ≤ l.length + 1 := by
  unfold addL
  split <;> simp
theorem addL_ge (l : List Tm) (t : Tm) : l.length ≤ (addL l t).length := (addL_prefix l t).length_le

/-- A term adds no more terms than it has bytes. -/
theorem p_count (s : ByteArray) : ∀ f : Nat,
    (∀ above i l n k l', i ≤ s.size → pTerm s f above i l = .ok n k l' → l'.length + i ≤ l.length + k ∧ n < l'.length) ∧
    (∀ above i l xs x k l', i ≤ s.size → xs.length ≤ 4 → (∀ a ∈ xs, a < l.length) → pArgs s f above i l xs = .ok x k l' → l'.length + i ≤ l.length + k ∧ x.length ≤ 4 ∧ ∀ a ∈ x, a < l'.length)
  | 0 => ⟨fun _ _ _ _ _ _ _ e => (by rw [pTerm] at e; cases e), fun _ _ _ _ _ _ _ _ _ _ e => (by rw [pArgs] at e; cases e)⟩
  | f + 1 => by
    obtain ⟨IT, IA⟩ := p_count s f
    obtain ⟨GT, GA⟩ := p_grows s f
    constructor
    · intro above i l n k l' hi e
      rw [pTerm] at e
      split at e
      · cases e
      · next hb =>
        have hb' : badNm s i = false := by simpa using hb
        have h1 := nm_lt hb'
        have h2 := nmE_le hi
        have h3 := bl_ge s (nmE s i)
        have h4 := bl_le h2
        split at e
        · cases e
        · split at e
          · next hs =>
            have h5 := behind_lt hs
            have h6 := behind_le (c := 40) h4
            split at e
            · cases e
            · next xs k2 l2 hx =>
              obtain ⟨A1, A2, A3⟩ := IA _ _ _ _ _ _ _ h6 (by simp) (by simp) hx
              unfold pEnd at e
              split at e
              · injection e with e1 e2 e3
                subst e1 e2 e3
                have := addL_len l2 ⟨s.extract i (nmE s i), xs⟩
                exact ⟨by omega, addN_lt _ _⟩
              · cases e
          · unfold pEnd at e
            split at e
            · injection e with e1 e2 e3
              subst e1 e2 e3
              have := addL_len l ⟨s.extract i (nmE s i), []⟩
              exact ⟨by omega, addN_lt _ _⟩
            · cases e
    · intro above i l xs x k l' hi hx4 hxs e
      rw [pArgs] at e
      split at e
      · cases e
      · split at e
        · cases e
        · next hn4 =>
          split at e
          · cases e
          · next n k2 l2 hx =>
            obtain ⟨A1, A2⟩ := IT _ _ _ _ _ _ hi hx
            obtain ⟨B0, B1⟩ := GT above i l hi
            obtain ⟨B2, B3⟩ := B1 n k2 l2 hx
            rw [hx] at B0
            have B4 : l.length ≤ l2.length := B0.length_le
            have hxs2 : ∀ a ∈ xs ++ [n], a < l2.length := by
              intro a ha
              rcases List.mem_append.1 ha with ha | ha
              · exact Nat.lt_of_lt_of_le (hxs a ha) B4
              · rw [List.mem_singleton.1 ha]; exact A2
            have hl4 : (xs ++ [n]).length ≤ 4 := by simp; omega
            split at e
            · next hs =>
              have h5 := behind_lt hs
              injection e with e1 e2 e3
              subst e1 e2 e3
              exact ⟨by omega, hl4, hxs2⟩
            · split at e
              · next hs =>
                have h5 := behind_lt hs
                obtain ⟨C1, C2, C3⟩ := IA _ _ _ _ _ _ _ (behind_le B3) hl4 hxs2 e
                exact ⟨by omega, C2, C3⟩
              · cases e

/-- What may change: what is told, and the bank. -/
def RFoot (X : Nat → Prop) (p : Nat) (ev : Value) (nb fb k : Nat) : Prop := X k ∨ BFoot p ev nb fb k

/-- A reader at r over the bank at p. -/
structure RB (w : World) (base r p : Nat) (ev : Value) (nb fb : Nat) (s : ByteArray) (i : Nat) (l : List Tm) : Prop where
  rd : Rd w r (.pointer (some ⟨p, 0, none⟩)) s i
  bk : Bk w base p ev nb fb l
  rp : r ≠ p
  rn : r ≠ nb
  rf : r ≠ fb
  er : ev.ownBlock ≠ some r
  bs : base ≤ w.heap.size

/-- From (w, ev) to (w', ev'): what was there and is not of X or the bank's has stayed; the row stayed or is new. -/
structure Grew (X : Nat → Prop) (p nb fb : Nat) (w : World) (ev : Value) (w' : World) (ev' : Value) : Prop where
  kept : Kept (RFoot X p ev nb fb) w w'
  row : ev'.ownBlock = ev.ownBlock ∨ ∀ k, ev'.ownBlock = some k → w.heap.size ≤ k

theorem Grew.refl (X : Nat → Prop) (p nb fb : Nat) (w : World) (ev : Value) : Grew X p nb fb w ev w ev := ⟨Kept.refl _ w, Or.inl rfl⟩
theorem Grew.mono {X Y : Nat → Prop} {p nb fb : Nat} {a b : World} {ea eb : Value} (h : Grew X p nb fb a ea b eb) (hXY : ∀ k, k < a.heap.size → X k → Y k) : Grew Y p nb fb a ea b eb :=
  ⟨Kept.mono h.kept (fun k hk e => e.elim (fun x => Or.inl (hXY k hk x)) Or.inr), h.row⟩
theorem Grew.trans {X : Nat → Prop} {p nb fb : Nat} {a b c : World} {ea eb ec : Value} (h : Grew X p nb fb a ea b eb) (k : Grew X p nb fb b eb c ec) : Grew X p nb fb a ea c ec := by
  refine ⟨⟨k.kept.os.trans h.kept.os, k.kept.tape.trans h.kept.tape, k.kept.output.trans h.kept.output, Nat.le_trans h.kept.size k.kept.size, ?_⟩, ?_⟩
  · intro x hx hs
    rw [k.kept.block x (Nat.lt_of_lt_of_le hx h.kept.size) ?_]
    · exact h.kept.block x hx hs
    · intro hr
      apply hs
      rcases hr with e | e | e | e | e
      · exact Or.inl e
      · exact Or.inr (Or.inl e)
      · exact Or.inr (Or.inr (Or.inl e))
      · exact Or.inr (Or.inr (Or.inr (Or.inl e)))
      · rcases h.row with e2 | e2
        · exact Or.inr (Or.inr (Or.inr (Or.inr (e2 ▸ e))))
        · have := e2 x e; omega
  · rcases k.row with e | e
    · rcases h.row with e2 | e2
      · exact Or.inl (e.trans e2)
      · exact Or.inr fun x hx => e2 x (e ▸ hx)
    · exact Or.inr fun x hx => Nat.le_trans h.kept.size (e x hx)
theorem Grew.setCell {X : Nat → Prop} {p nb fb : Nat} {a b : World} {ea eb : Value} (h : Grew X p nb fb a ea b eb) {x o : Nat} (hx : X x) (u : Value) : Grew X p nb fb a ea (b.setCell ⟨x, o, none⟩ u) eb :=
  ⟨Kept.setCell (p := ⟨x, o, none⟩) h.kept (Or.inl hx) u, h.row⟩
theorem Grew.drewN {X : Nat → Prop} {p nb fb : Nat} {a b : World} {ea eb : Value} (h : Grew X p nb fb a ea b eb) (m : Nat) : Grew X p nb fb a ea (b.drewN m) eb := ⟨Kept.drewN h.kept m, h.row⟩

/-- The reader alone has gone on. -/
theorem RB.read {w w' : World} {base r p : Nat} {ev : Value} {nb fb : Nat} {s : ByteArray} {i k : Nat} {l : List Tm} (h : RB w base r p ev nb fb s i l) (K : Kept1 r w w') (hR : Rd w' r (.pointer (some ⟨p, 0, none⟩)) s k) :
    RB w' base r p ev nb fb s k l ∧ Grew (fun k => k = r) p nb fb w ev w' ev :=
  ⟨⟨hR, h.bk.kept1 K (Ne.symm h.rp) (Ne.symm h.rn) (Ne.symm h.rf) h.er, h.rp, h.rn, h.rf, h.er, Nat.le_trans h.bs K.size⟩, ⟨Kept.mono K (fun _ _ e => Or.inl e), Or.inl rfl⟩⟩

theorem Rd.of_block {w w' : World} {r : Nat} {bp : Value} {s : ByteArray} {i : Nat} (h : Rd w r bp s i) (hb : w'.heap[r]? = w.heap[r]?) : Rd w' r bp s i := ⟨h.row.of_block hb, h.le, h.small⟩

/-- The bank alone has changed. -/
theorem RB.banked {w w' : World} {base r p : Nat} {ev ev' : Value} {nb fb : Nat} {s : ByteArray} {i : Nat} {l l' : List Tm} (h : RB w base r p ev nb fb s i l) (K : Kept (BFoot p ev nb fb) w w') (hB : Bk w' base p ev' nb fb l') (hr : ev'.ownBlock = ev.ownBlock ∨ ∀ k, ev'.ownBlock = some k → w.heap.size ≤ k) :
    RB w' base r p ev' nb fb s i l' ∧ Grew (fun k => k = r) p nb fb w ev w' ev' := by
  have hrl := h.rd.row.lt
  refine ⟨⟨h.rd.of_block (K.block r hrl ?_), hB, h.rp, h.rn, h.rf, ?_, Nat.le_trans h.bs K.size⟩, ⟨Kept.mono K (fun _ _ e => Or.inr e), hr⟩⟩
  · rintro (e | e | e | e)
    · exact h.rp e
    · exact h.rn e
    · exact h.rf e
    · exact h.er e
  · rcases hr with e | e
    · rw [e]; exact h.er
    · intro e2
      have := e r e2
      omega

theorem RB.kept0 {w w' : World} {base r p : Nat} {ev : Value} {nb fb : Nat} {s : ByteArray} {i : Nat} {l : List Tm} (h : RB w base r p ev nb fb s i l) (K : Kept0 w w') : RB w' base r p ev nb fb s i l ∧ Grew (fun k => k = r) p nb fb w ev w' ev :=
  h.banked (Kept.mono K (fun _ _ e => e.elim)) (h.bk.kept0 K) (Or.inl rfl)
theorem RB.drewN {w : World} {base r p : Nat} {ev : Value} {nb fb : Nat} {s : ByteArray} {i : Nat} {l : List Tm} (h : RB w base r p ev nb fb s i l) (m : Nat) : RB (w.drewN m) base r p ev nb fb s i l :=
  ⟨h.rd.drewN m, h.bk.drewN m, h.rp, h.rn, h.rf, h.er, h.bs⟩

/-- And an entry that is being read, at x. -/
structure RX (w : World) (base r p : Nat) (ev : Value) (nb fb : Nat) (s : ByteArray) (i : Nat) (l : List Tm) (x : Nat) (t : Tm) : Prop where
  rb : RB w base r p ev nb fb s i l
  box : Boxed w x t
  xr : x ≠ r
  xp : x ≠ p
  xn : x ≠ nb
  xf : x ≠ fb
  ex : ev.ownBlock ≠ some x

theorem RX.drewN {w : World} {base r p : Nat} {ev : Value} {nb fb : Nat} {s : ByteArray} {i : Nat} {l : List Tm} {x : Nat} {t : Tm} (h : RX w base r p ev nb fb s i l x t) (m : Nat) : RX (w.drewN m) base r p ev nb fb s i l x t :=
  ⟨h.rb.drewN m, World.rowIs.of_block h.box rfl, h.xr, h.xp, h.xn, h.xf, h.ex⟩
theorem RX.grew {w w' : World} {base r p : Nat} {ev ev' : Value} {nb fb : Nat} {s : ByteArray} {i k : Nat} {l l' : List Tm} {x : Nat} {t : Tm} (h : RX w base r p ev nb fb s i l x t) (G : Grew (fun k => k = r) p nb fb w ev w' ev') (R : RB w' base r p ev' nb fb s k l') : RX w' base r p ev' nb fb s k l' x t := by
  have hlt := World.rowIs.lt h.box
  refine ⟨R, World.rowIs.of_block h.box (G.kept.block x hlt ?_), h.xr, h.xp, h.xn, h.xf, ?_⟩
  · rintro (e | e | e | e | e)
    · exact h.xr e
    · exact h.xp e
    · exact h.xn e
    · exact h.xf e
    · exact h.ex e
  · rcases G.row with e | e
    · rw [e]; exact h.ex
    · intro e2
      have := e x e2
      omega

theorem RB.setOther {w : World} {base r p : Nat} {ev : Value} {nb fb : Nat} {s : ByteArray} {i : Nat} {l : List Tm} (h : RB w base r p ev nb fb s i l) {x : Nat} (xr : x ≠ r) (xp : x ≠ p) (xn : x ≠ nb) (xf : x ≠ fb) (ex : ev.ownBlock ≠ some x) (o : Nat) (u : Value) : RB (w.setCell ⟨x, o, none⟩ u) base r p ev nb fb s i l := by
  have K : Kept1 x w (w.setCell ⟨x, o, none⟩ u) := Kept1.set (Kept.refl _ w) o u
  exact ⟨h.rd.of_block (K.block r h.rd.row.lt (fun e => xr e.symm)), h.bk.kept1 K (Ne.symm xp) (Ne.symm xn) (Ne.symm xf) ex, h.rp, h.rn, h.rf, h.er, Nat.le_trans h.bs K.size⟩

/-- The entry has one more arg. -/
theorem RX.push {w : World} {base r p : Nat} {ev : Value} {nb fb : Nat} {s : ByteArray} {i : Nat} {l : List Tm} {x : Nat} {nm : ByteArray} {xs : List Nat} (h : RX w base r p ev nb fb s i l x ⟨nm, xs⟩) (h4 : xs.length < 4) (n : Nat) :
    RX ((w.setCell ⟨x, 2 + xs.length, none⟩ (.int .i64 (n : Int))).setCell ⟨x, 1, none⟩ (.int .i64 ((xs.length : Int) + 1))) base r p ev nb fb s i l x ⟨nm, xs ++ [n]⟩ := by
  refine ⟨(h.rb.setOther h.xr h.xp h.xn h.xf h.ex _ _).setOther h.xr h.xp h.xn h.xf h.ex _ _, ?_, h.xr, h.xp, h.xn, h.xf, h.ex⟩
  refine World.rowIs.congr (World.rowIs.set (World.rowIs.set h.box (2 + xs.length) (.int .i64 (n : Int))) 1 (.int .i64 ((xs.length : Int) + 1))) ?_
  intro j hj
  match xs, h4 with
  | [], _ => rcases (by omega : j = 0 ∨ j = 1 ∨ j = 2 ∨ j = 3 ∨ j = 4 ∨ j = 5) with rfl | rfl | rfl | rfl | rfl | rfl <;> rfl
  | [a], _ => rcases (by omega : j = 0 ∨ j = 1 ∨ j = 2 ∨ j = 3 ∨ j = 4 ∨ j = 5) with rfl | rfl | rfl | rfl | rfl | rfl <;> rfl
  | [a, b], _ => rcases (by omega : j = 0 ∨ j = 1 ∨ j = 2 ∨ j = 3 ∨ j = 4 ∨ j = 5) with rfl | rfl | rfl | rfl | rfl | rfl <;> rfl
  | [a, b, c], _ => rcases (by omega : j = 0 ∨ j = 1 ∨ j = 2 ∨ j = 3 ∨ j = 4 ∨ j = 5) with rfl | rfl | rfl | rfl | rfl | rfl <;> rfl
  | _ :: _ :: _ :: _ :: _, h4 => simp at h4; omega

end Go.Proofs.Ytjfekcjhflcnaaa
