/- Package term: add, where the term is new. Package term: add as one; New. Package term: what takeOut leaves, plainly. Package term: clear of the end of a row of entries. -/
import Derived.Test.YtinphcnknionmaaG17
import Derived.Test.YtinphcnknionmaaSFindD
import Derived.Lib.SliceRun
namespace Go.Proofs.Ytinphcnknionmaa
open Go.RowKit Go.Maps

theorem infoEntry : (Try.prog.info? 124).map (fun i => (i.zero, i.size, i.bytes)) = some (some (.agg #[.string ⟨#[]⟩, .int .i64 0, .int .i64 0, .int .i64 0, .int .i64 0, .int .i64 0]), 6, 56) := by kernel_rfl

/-- The cells of a box that holds an entry. -/
def boxF (t : Tm) (j : Nat) : Value := (entryL t).toArray[j]?.getD undef
abbrev Boxed (w : World) (b : Nat) (t : Tm) : Prop := w.rowIs b 124 6 (boxF t)
theorem boxed_row (w : World) (t : Tm) : Boxed (w.alloc (.cells (entryL t).toArray 124)) w.heap.size t := made_row w (entryL t).toArray 124

theorem Boxed.c0 {w : World} {b : Nat} {t : Tm} (h : Boxed w b t) : w.cell? ⟨b, 0, none⟩ = some (.string t.name) := h.cell (i := 0) (by omega)
theorem Boxed.c1 {w : World} {b : Nat} {t : Tm} (h : Boxed w b t) : w.cell? ⟨b, 1, none⟩ = some (.int .i64 (t.args.length : Int)) := h.cell (i := 1) (by omega)
theorem Boxed.c2 {w : World} {b : Nat} {t : Tm} (h : Boxed w b t) : w.cell? ⟨b, 2, none⟩ = some (.int .i64 (t.arg 0 : Int)) := h.cell (i := 2) (by omega)
theorem Boxed.c3 {w : World} {b : Nat} {t : Tm} (h : Boxed w b t) : w.cell? ⟨b, 3, none⟩ = some (.int .i64 (t.arg 1 : Int)) := h.cell (i := 3) (by omega)
theorem Boxed.c4 {w : World} {b : Nat} {t : Tm} (h : Boxed w b t) : w.cell? ⟨b, 4, none⟩ = some (.int .i64 (t.arg 2 : Int)) := h.cell (i := 4) (by omega)
theorem Boxed.c5 {w : World} {b : Nat} {t : Tm} (h : Boxed w b t) : w.cell? ⟨b, 5, none⟩ = some (.int .i64 (t.arg 3 : Int)) := h.cell (i := 5) (by omega)
theorem Boxed.kept0 {w w' : World} {b : Nat} {t : Tm} (h : Boxed w b t) (K : Kept0 w w') : Boxed w' b t := World.rowIs.of_block h (K.block b (World.rowIs.lt h) (fun e => e))
theorem Boxed.named {w : World} {b : Nat} {t : Tm} (h : Boxed w b t) : Boxed (w.setCell ⟨b, 0, none⟩ (.string t.name)) b t :=
  World.rowIs.congr (World.rowIs.set h 0 (.string t.name)) (fun j hj => by
    by_cases e : j = 0
    · subst e; rfl
    · simp [e])

/-- A bank's row and maps, whatever they say. -/
structure Bq (w : World) (base p : Nat) (ev : Value) (nb fb : Nat) (l : List Tm) (Dn Df : DataW Unit) : Prop where
  bank : w.rowIs p 105 3 (bankC ev nb fb)
  rows : w.ownsRow base 124 6 ev l.length (l.flatMap entryL)
  nums : mapIs w 124 nb Dn
  fsts : mapIs w 9 fb Df
  pn : p ≠ nb
  pf : p ≠ fb
  nf : nb ≠ fb
  ep : ev.ownBlock ≠ some p
  en : ev.ownBlock ≠ some nb
  ef : ev.ownBlock ≠ some fb
  bp : base ≤ p
  bn : base ≤ nb
  bf : base ≤ fb

structure Tells (l : List Tm) (Dn Df : DataW Unit) : Prop where
  nsize : Maps.size Dn = l.length
  nsays : ∀ t : Tm, t.ok → Says Dn (ekey t) (nix l t)
  fsize : Maps.size Df = cntF l
  fsays : ∀ n : ByteArray, n.size ≤ 6 → Says Df (skey n) (fst l n)
  oks : ∀ t ∈ l, t.ok
  nodup : l.Nodup
  small : l.length ≤ 1000

theorem Bk.split {w : World} {base p : Nat} {ev : Value} {nb fb : Nat} {l : List Tm} (h : Bk w base p ev nb fb l) : ∃ Dn Df, Bq w base p ev nb fb l Dn Df ∧ Tells l Dn Df := by
  obtain ⟨Dn, n1, n2, n3⟩ := h.nums
  obtain ⟨Df, f1, f2, f3⟩ := h.fsts
  exact ⟨Dn, Df, ⟨h.bank, h.rows, n1, f1, h.pn, h.pf, h.nf, h.ep, h.en, h.ef, h.bp, h.bn, h.bf⟩, ⟨n2, n3, f2, f3, h.oks, h.nodup, h.small⟩⟩
theorem Bq.whole {w : World} {base p : Nat} {ev : Value} {nb fb : Nat} {l : List Tm} {Dn Df : DataW Unit} (h : Bq w base p ev nb fb l Dn Df) (T : Tells l Dn Df) : Bk w base p ev nb fb l :=
  ⟨h.bank, h.rows, ⟨Dn, h.nums, T.nsize, T.nsays⟩, ⟨Df, h.fsts, T.fsize, T.fsays⟩, T.oks, T.nodup, h.pn, h.pf, h.nf, h.ep, h.en, h.ef, h.bp, h.bn, h.bf, T.small⟩

theorem mapIs_type {w : World} {b k : Nat} {kt e : TypeId} {D : DataW Unit} (h : mapIs w kt b D) {base size : Nat} {v : Value} {xs : List Value} (hr : w.ownsRow base e size v k xs) : v.ownBlock ≠ some b := by
  intro hb
  obtain ⟨es, clock, hm, _⟩ := h
  rcases hr.2 with ⟨rfl, _⟩ | ⟨g, cap, cur, rfl, _, hg, _⟩
  · simp [Value.ownBlock] at hb
  · simp [Value.ownBlock] at hb
    subst hb
    rw [hm] at hg
    cases hg

theorem six_news (w : World) (m : Nat) (t : Tm) : ∀ j u, (entryL t)[j]? = some u → ((w.drewN m).alloc (.cells (entryL t).toArray 124)).cell? ((⟨w.heap.size, 0, none⟩ : Addr).add j) = some u := by
  intro j u hj
  have e := boxed (w.drewN m) t j u hj
  have ea : ((⟨w.heap.size, 0, none⟩ : Addr).add j) = ⟨w.heap.size, j, none⟩ := by
    simp [Addr.add]
    intro e0
    rw [e0]
  rw [ea]
  exact e

/-- A term is kept in the row: the maps are as they were. -/
theorem Bq.appended {w w1 : World} {base p : Nat} {ev : Value} {nb fb : Nat} {l : List Tm} {Dn Df : DataW Unit} (h : Bq w base p ev nb fb l Dn Df) (m : Nat) (O : Obj) (t : Tm) (v' : Value)
    (hown : w1.ownsRow base 124 6 v' (l.length + 1) (l.flatMap entryL ++ entryL t)) (hgrow : ((w.drewN m).alloc O).grownBy w1 ev.ownBlock)
    (hloc : v'.ownBlock = ev.ownBlock ∨ ∀ k, v'.ownBlock = some k → ((w.drewN m).alloc O).heap.size ≤ k) :
    Bq (w1.setCell ⟨p, 0, none⟩ v') base p v' nb fb (l ++ [t]) Dn Df ∧ Kept (BFoot p ev nb fb) w (w1.setCell ⟨p, 0, none⟩ v') ∧ (v'.ownBlock = ev.ownBlock ∨ ∀ k, v'.ownBlock = some k → w.heap.size ≤ k) ∧
      w1.cell? ⟨p, 0, none⟩ = some ev ∧ w1.frozen? ⟨p, 0, none⟩ = false := by
  have hb0 : ((w.drewN m).alloc O).rowIs p 105 3 (bankC ev nb fb) := World.rowIs.alloc (World.rowIs.of_block h.bank rfl) O
  have hp : w1.rowIs p 105 3 (bankC ev nb fb) := hb0.of_block (hgrow.block p hb0.lt (fun e => h.ep e.symm))
  have n0 : mapIs ((w.drewN m).alloc O) 124 nb Dn := World.ownsMap.alloc h.nums O
  have f0 : mapIs ((w.drewN m).alloc O) 9 fb Df := World.ownsMap.alloc h.fsts O
  have n1 : mapIs w1 124 nb Dn := World.ownsMap.kept n0 hgrow (fun e => h.en e.symm)
  have f1 : mapIs w1 9 fb Df := World.ownsMap.kept f0 hgrow (fun e => h.ef e.symm)
  have np := rowIs_type hp (by decide) hown
  refine ⟨⟨(hp.set 0 v').congr ?_, ?_, World.ownsMap.setCell n1 (Ne.symm h.pn) _, World.ownsMap.setCell f1 (Ne.symm h.pf) _, h.pn, h.pf, h.nf, np, mapIs_type n1 hown, mapIs_type f1 hown, h.bp, h.bn, h.bf⟩, ?_, ?_, hp.cell (i := 0) (by omega), hp.frozen 0⟩
  · intro i hi
    rcases (by omega : i = 0 ∨ i = 1 ∨ i = 2) with rfl | rfl | rfl <;> simp [bankC]
  · rw [List.length_append, List.flatMap_append]
    simpa using ownsRow_setCell_other hown np _
  · exact Kept.setCell (S := BFoot p ev nb fb) (p := ⟨p, 0, none⟩) (Kept.grown (((Kept.refl (BFoot p ev nb fb) w).drewN m).alloc O) hgrow (fun k hk => Or.inr (Or.inr (Or.inr hk)))) (Or.inl rfl) _
  · rcases hloc with e | e
    · exact Or.inl e
    · exact Or.inr fun k hk => by have := e k hk; simp at this; omega

theorem Kept1.of_grown {b : Nat} {w w' : World} (h : w.grownBy w' (some b)) : Kept1 b w w' := ⟨h.os, h.tape, h.output, h.size, fun k hk hs => h.block k hk (fun e => hs (by simpa using e))⟩

theorem Bq.drew {w : World} {base p : Nat} {ev : Value} {nb fb : Nat} {l : List Tm} {Dn Df : DataW Unit} (h : Bq w base p ev nb fb l Dn Df) : Bq w.drew base p ev nb fb l Dn Df :=
  ⟨h.bank, h.rows, h.nums, h.fsts, h.pn, h.pf, h.nf, h.ep, h.en, h.ef, h.bp, h.bn, h.bf⟩
theorem Bq.drewN {w : World} {base p : Nat} {ev : Value} {nb fb : Nat} {l : List Tm} {Dn Df : DataW Unit} (h : Bq w base p ev nb fb l Dn Df) (m : Nat) : Bq (w.drewN m) base p ev nb fb l Dn Df :=
  ⟨h.bank, h.rows, h.nums, h.fsts, h.pn, h.pf, h.nf, h.ep, h.en, h.ef, h.bp, h.bn, h.bf⟩

theorem Bq.storeN {w : World} {base p : Nat} {ev : Value} {nb fb : Nat} {l : List Tm} {Dn Df : DataW Unit} (h : Bq w base p ev nb fb l Dn Df) {t : Tm} (ht : t.ok) {n : Nat} (hn : n < 100000) (hs : Maps.size Dn < maxLen) :
    ∃ w', (Instr.mapUpdate 101 (.map (some nb)) (entryV t) (.int .i64 (n : Int))).run Try.prog w = .ok () w' ∧ Bq w' base p ev nb fb l (Dn.put (ekey t) (.lit (.int .i64 (n : Int)))) Df ∧ Kept1 nb w w' := by
  obtain ⟨w', hr, ho, hturn⟩ := World.ownsMap.store h.nums tLaw Try.underlying101 hs (ekey_of ht) (plainElem_int Try.underlying3 (wf64 hn))
  have g := hturn.grown
  exact ⟨w', hr, ⟨h.bank.of_block (g.block p h.bank.lt (by simpa using h.pn)), h.rows.kept g (Or.inr h.en), mapIs_of ho, World.ownsMap.kept h.fsts g (by simpa using Ne.symm h.nf), h.pn, h.pf, h.nf, h.ep, h.en, h.ef, h.bp, h.bn, h.bf⟩, Kept1.of_grown g⟩

theorem Bq.storeF {w : World} {base p : Nat} {ev : Value} {nb fb : Nat} {l : List Tm} {Dn Df : DataW Unit} (h : Bq w base p ev nb fb l Dn Df) {s : ByteArray} (ht : s.size ≤ 6) {n : Nat} (hn : n < 100000) (hs : Maps.size Df < maxLen) :
    ∃ w', (Instr.mapUpdate 102 (.map (some fb)) (.string s) (.int .i64 (n : Int))).run Try.prog w = .ok () w' ∧ Bq w' base p ev nb fb l Dn (Df.put (skey s) (.lit (.int .i64 (n : Int)))) ∧ Kept1 fb w w' := by
  obtain ⟨w', hr, ho, hturn⟩ := World.ownsMap.store h.fsts sLaw Try.underlying102 hs (skey_of ht) (plainElem_int Try.underlying3 (wf64 hn))
  have g := hturn.grown
  exact ⟨w', hr, ⟨h.bank.of_block (g.block p h.bank.lt (by simpa using h.pf)), h.rows.kept g (Or.inr h.ef), World.ownsMap.kept h.nums g (by simpa using h.nf), mapIs_of ho, h.pn, h.pf, h.nf, h.ep, h.en, h.ef, h.bp, h.bn, h.bf⟩, Kept1.of_grown g⟩

/-- 'm[k] = v' as one step of a region that draws. -/
theorem step_mapUpdate {P : Program} {ops : Array Oper} {o : Oper} {a : Act} {w : World} {K : Act → World → Prop} {Q : Exit → Act → World → Prop} {E : Prop} {R : World → Prop}
    (hg : o.guard = none) (m x v : Operand) (t : TypeId) (hop : o.op = Op.mapUpdate t m x v) (mv key val : Value) (hm : a.eval m = mv) (hx : a.eval x = key) (hv : a.eval v = val)
    (hex : ∃ w', (Instr.mapUpdate t mv key val).run P w = .ok () w' ∧ R w') (hK : ∀ w', R w' → K (a.put o.dst undef) w') :
    if Region.wanted o (yielded ops a.tmps) = true then Oper.wp P o a w K Q else E := by
  have hw : Region.wanted o (yielded ops a.tmps) = true := by simp [Region.wanted, hg]
  rw [if_pos hw]
  obtain ⟨w', hrun, r⟩ := hex
  unfold Oper.wp
  simp [execOp, hop, hm, hx, hv, hrun, Result.andThen]
  exact hK w' r

theorem Tells.nput {l : List Tm} {Dn Df : DataW Unit} (T : Tells l Dn Df) {t : Tm} (ht : t.ok) (hi : nix l t = none) (hD : Tidy Dn) : Maps.size (Dn.put (ekey t) (.lit (.int .i64 (l.length : Int)))) = l.length + 1 := by
  have hh := (T.nsays t ht).1
  rw [hi] at hh
  rw [size_put hD, hh, T.nsize]
  rfl
theorem nodup_snoc {l : List Tm} {t : Tm} (h : l.Nodup) (hi : nix l t = none) : (l ++ [t]).Nodup := by
  rw [List.nodup_append]
  exact ⟨h, by simp, fun a ha b hb e => by simp at hb; subst hb; subst e; exact nix_none hi ha⟩
theorem oks_snoc {l : List Tm} {t : Tm} (h : ∀ u ∈ l, u.ok) (ht : t.ok) : ∀ u ∈ l ++ [t], u.ok := by
  intro u hu
  rcases List.mem_append.1 hu with hu | hu
  · exact h u hu
  · simp at hu; subst hu; exact ht
theorem Tells.snoc_new {l : List Tm} {Dn Df : DataW Unit} (T : Tells l Dn Df) {t : Tm} (ht : t.ok) (hi : nix l t = none) (hf : fst l t.name = none) (hlt : l.length < 1000) (hD : Tidy Dn) (hF : Tidy Df) :
    Tells (l ++ [t]) (Dn.put (ekey t) (.lit (.int .i64 (l.length : Int)))) (Df.put (skey t.name) (.lit (.int .i64 (l.length : Int)))) := by
  refine ⟨by rw [T.nput ht hi hD]; simp, nums_snoc T.nsays hD.isMap ht hi, ?_, fsts_snoc T.fsays hF.isMap ht hf, oks_snoc T.oks ht, nodup_snoc T.nodup hi, by simp; omega⟩
  have hh := (T.fsays t.name ht.name).1
  rw [hf] at hh
  rw [size_put hF, hh, T.fsize, cntF_snoc, hf]
  rfl
theorem Tells.snoc_old {l : List Tm} {Dn Df : DataW Unit} (T : Tells l Dn Df) {t : Tm} (ht : t.ok) (hi : nix l t = none) {i : Nat} (hf : fst l t.name = some i) (hlt : l.length < 1000) (hD : Tidy Dn) :
    Tells (l ++ [t]) (Dn.put (ekey t) (.lit (.int .i64 (l.length : Int)))) Df := by
  refine ⟨by rw [T.nput ht hi hD]; simp, nums_snoc T.nsays hD.isMap ht hi, ?_, fsts_kept T.fsays hf, oks_snoc T.oks ht, nodup_snoc T.nodup hi, by simp; omega⟩
  rw [T.fsize, cntF_snoc, hf]
  rfl

set_option maxHeartbeats 1000000 in
theorem add_new (w : World) (base p : Nat) (ev : Value) (nb fb : Nat) (l : List Tm) (h : Bk w base p ev nb fb l) (t : Tm) (ht : t.ok) (hi : nix l t = none) (hlt : l.length < 1000) (hbase : base ≤ w.heap.size) :
    Calls Try.prog 144 #[.pointer (some ⟨p, 0, none⟩), entryV t] w fun e w' => e = .returned (.int .i64 (l.length : Int)) ∧ ∃ ev', Bk w' base p ev' nb fb (l ++ [t]) ∧ Kept (BFoot p ev nb fb) w w' ∧ (ev'.ownBlock = ev.ownBlock ∨ ∀ k, ev'.ownBlock = some k → w.heap.size ≤ k) := by
  unfold entryV
  have bR := boxed_row w t
  have W1 : (entryL t).toArray = #[.string t.name, .int .i64 (t.args.length : Int), .int .i64 (t.arg 0 : Int), .int .i64 (t.arg 1 : Int), .int .i64 (t.arg 2 : Int), .int .i64 (t.arg 3 : Int)] := rfl
  rw [W1] at bR ⊢
  clear W1
  obtain ⟨ea, ec, rfl⟩ := h.eform
  have hpl := h.bank.lt
  obtain ⟨Dn0, Df0, hq0, _⟩ := h.split
  have hnl := World.ownsMap.lt hq0.nums
  have hfl := World.ownsMap.lt hq0.fsts
  have hev : (Value.slice ea l.length ec).ownBlock ≠ some w.heap.size := fun e => by have := (h.rows.lt _ e).2; omega
  clear hq0
  go_enter Try.func144, Try.ntmps144
  go_wp2_with fail
  generalize hw1 : w.alloc (Obj.cells #[.string t.name, .int .i64 (t.args.length : Int), .int .i64 (t.arg 0 : Int), .int .i64 (t.arg 1 : Int), .int .i64 (t.arg 2 : Int), .int .i64 (t.arg 3 : Int)] 124) = w1 at bR ⊢
  have K1 : Kept0 w w1 := hw1 ▸ Kept.alloc (Kept.refl _ w) _
  have hsz1 : w.heap.size < w1.heap.size := bR.lt
  clear hw1
  have H1 := h.kept0 K1
  generalize hbx : w.heap.size = bx at *
  have hpb : ¬ p = bx := by omega
  have c1 := H1.c1
  have x0 := bR.c0
  have x1 := bR.c1
  have x2 := bR.c2
  have x3 := bR.c3
  have x4 := bR.c4
  have x5 := bR.c5
  have LN := fun m => (H1.drewN m).lookN ht
  rw [hi] at LN
  simp only [Option.getD_none, Option.isSome_none, entryV, entryL] at LN
  go_quiet (fail)
  clear LN x1 x2 x3 x4 x5 c1
  have bRd := fun m => (World.rowIs.of_block bR rfl : Boxed (w1.drewN m) bx t)
  go_wp2_with (go_at_call 164; go_loud (refine (clone_any _ _ ht.name).mono ?_; rintro e w2 ⟨rfl, K2⟩; have bR2 := Boxed.kept0 (bRd _) K2; have y0 := Boxed.c0 bR2; have f0 := World.rowIs.frozen bR2 0; have H2 := Bk.kept0 (H1.drewN _) K2; have z0 := H2.c0; have hpb' := hpb))
  have H3 := Bk.kept1 H2 (Kept1.set (Kept.refl _ w2) 0 (.string t.name) : Kept1 bx w2 _) hpb (by omega) (by omega) hev
  have K3 : Kept0 w (w2.setCell ⟨bx, 0, none⟩ (.string t.name)) := Kept.mono (S := fun k => k = bx) (Kept1.set (Kept.mono ((Kept.drewN K1 nq).trans K2) (fun _ _ x => x.elim)) 0 _) (fun k hk e => by omega)
  have b3 := Boxed.named bR2
  clear H1 H2 K1 K2 bR bR2 bRd y0 f0 z0 x0 hpb'
  generalize w2.setCell ⟨bx, 0, none⟩ (.string t.name) = w3 at *
  obtain ⟨Dn, Df, Q3, T3⟩ := H3.split
  clear H3
  have hb3 : base ≤ w3.heap.size := by have := K3.size; omega
  have y0 := b3.c0
  have y1 := b3.c1
  have y2 := b3.c2
  have y3 := b3.c3
  have y4 := b3.c4
  have y5 := b3.c5
  have c0 : w3.cell? ⟨p, 0, none⟩ = some (.slice ea l.length ec) := Q3.bank.cell (by omega)
  have A0 : ∀ m O, ((w3.drewN m).alloc O).cell? ⟨p, 0, none⟩ = some (.slice ea l.length ec) := fun m O => World.rowIs.cell (World.rowIs.alloc (World.rowIs.of_block Q3.bank rfl : (w3.drewN m).rowIs p 105 3 (bankC (.slice ea l.length ec) nb fb)) O) (by omega)
  have A1 : ∀ O, (w3.alloc O).cell? ⟨p, 0, none⟩ = some (.slice ea l.length ec) := fun O => World.rowIs.cell (World.rowIs.alloc Q3.bank O) (by omega)
  have OWN : ∀ m O, ((w3.drewN m).alloc O).ownsRow base 124 6 (.slice ea l.length ec) l.length (l.flatMap entryL) := fun m O => World.ownsRow.alloc (w := w3.drewN m) Q3.rows O
  have NEW := fun m => six_news w3 m t
  have hEL : entryL t = [.string t.name, .int .i64 (t.args.length : Int), .int .i64 (t.arg 0 : Int), .int .i64 (t.arg 1 : Int), .int .i64 (t.arg 2 : Int), .int .i64 (t.arg 3 : Int)] := rfl
  simp only [hEL] at NEW
  obtain ⟨i0, hi0, hz0, hz1, hz2⟩ := info_parts infoEntry
  go_region_law (refine step_append_here rfl (.tmp 34) (.tmp 36) 103 rfl base 124 i0 _ 6 56 Try.underlying103 hi0 hz0 hz1 hz2 rfl (by decide) _ l.length (l.flatMap entryL) (by simp [Act.eval]; rfl) (by exact OWN _ _) ⟨w3.heap.size, 0, none⟩ 1 1 [.string t.name, .int .i64 (t.args.length : Int), .int .i64 (t.arg 0 : Int), .int .i64 (t.arg 1 : Int), .int .i64 (t.arg 2 : Int), .int .i64 (t.arg 3 : Int)] (by simp [Act.eval]) rfl (by exact NEW _) (by simp [Value.oneCell']) (by unfold maxLen; omega) (by omega) (by simp; omega) ?_; intro v' w4 hown1 hgrow hloc; obtain ⟨Q4, K4, L4, kp1, kf1⟩ := Bq.appended Q3 _ _ t v' hown1 hgrow hloc; obtain ⟨b1, cap1, hv1⟩ := ownsRow_succ hown1; subst hv1)
  all_goals
    clear hown1 hgrow hloc kp1 kf1 A0 A1 OWN NEW y0 y1 y2 y3 y4 y5 c0
    go_wp2_with fail
    generalize hv5 : Value.slice (some (⟨b1, 0, none⟩ : Addr)) (l.length + 1) cap1 = v5 at *
    have b5 : Boxed (w4.setCell ⟨p, 0, none⟩ v5) bx t := World.rowIs.of_block b3 (K4.block bx (World.rowIs.lt b3) (fun x => by
      rcases x with x | x | x | x
      · exact hpb x.symm
      · omega
      · omega
      · exact hev x))
    generalize w4.setCell ⟨p, 0, none⟩ v5 = w5 at *
    have d1 : w5.cell? ⟨p, 1, none⟩ = some (.map (some nb)) := Q4.bank.cell (i := 1) (by omega)
    have y0 := b5.c0
    have y1 := b5.c1
    have y2 := b5.c2
    have y3 := b5.c3
    have y4 := b5.c4
    have y5 := b5.c5
    have hsn : Maps.size Dn < maxLen := by have := T3.nsize; unfold maxLen; omega
    obtain ⟨w6, hr6, Q6, K6⟩ := Bq.storeN Q4.drew ht (n := l.length) (by omega) hsn
    simp only [entryV, hEL] at hr6
    go_region
    clear hr6 y1 y2 y3 y4 y5 d1
    have b6 : Boxed w6 bx t := World.rowIs.of_block (World.rowIs.of_block b5 rfl : Boxed w5.drew bx t) (K6.block bx (World.rowIs.lt b5) (by omega))
    have y0 := b6.c0
    have d2 : w6.cell? ⟨p, 2, none⟩ = some (.map (some fb)) := Q6.bank.cell (i := 2) (by omega)
    have LF := fun m => Says.look (Q6.drewN m).fsts (T3.fsays t.name ht.name) sLaw Try.underlying102 (skey_of ht.name)
    cases hf : fst l t.name with
    | none =>
      rw [hf] at LF
      simp only [Option.getD_none, Option.isSome_none] at LF
      go_wp2_with fail
      go_quiet (fail)
      go_wp2_with fail
      clear LF
      have hsf : Maps.size Df < maxLen := by have := T3.fsize; have := cntF_le l; unfold maxLen; omega
      have z0 : ∀ m, (w6.drewN m).cell? ⟨bx, 0, none⟩ = some (.string t.name) := fun m => y0
      have z2 : ∀ m, (w6.drewN m).cell? ⟨p, 2, none⟩ = some (.map (some fb)) := fun m => d2
      obtain ⟨w7, hr7, Q7, K7⟩ := Bq.storeF (Q6.drewN (nq + 1)) ht.name (n := l.length) (by omega) hsf
      go_region
      all_goals
        go_wp2_with fail
        go_ret
        refine ⟨rfl, v5, Q7.whole (T3.snoc_new ht hi hf hlt (World.ownsMap.tidy Q3.nums tLaw) (World.ownsMap.tidy Q3.fsts sLaw)), ?_, ?_⟩
        · exact ((Kept.mono K3 (fun _ _ x => x.elim)).trans K4).drew.trans ((Kept.mono K6 (fun _ _ x => Or.inr (Or.inl x))).drewN _ |>.trans (Kept.mono K7 (fun _ _ x => Or.inr (Or.inr (Or.inl x)))))
        · exact L4.imp id (fun x k hk => Nat.le_trans K3.size (x k hk))
    | some i =>
      rw [hf] at LF
      simp only [Option.getD_some, Option.isSome_some] at LF
      go_wp2_with fail
      go_quiet (fail)
      go_wp2_with fail
      go_ret
      refine ⟨rfl, v5, (Q6.drewN _).whole (T3.snoc_old ht hi hf hlt (World.ownsMap.tidy Q3.nums tLaw)), ?_, ?_⟩
      · exact (((Kept.mono K3 (fun _ _ x => x.elim)).trans K4).drew.trans (Kept.mono K6 (fun _ _ x => Or.inr (Or.inl x)))).drewN _
      · exact L4.imp id (fun x k hk => Nat.le_trans K3.size (x k hk))

end Go.Proofs.Ytinphcnknionmaa

namespace Go.Proofs.Ytinphcnknionmaa
open Go.RowKit Go.Maps

theorem add_in (w : World) (base p : Nat) (ev : Value) (nb fb : Nat) (l : List Tm) (h : Bk w base p ev nb fb l) (t : Tm) (ht : t.ok) (hlt : l.length < 1000) (hbase : base ≤ w.heap.size) :
    Calls Try.prog 144 #[.pointer (some ⟨p, 0, none⟩), entryV t] w fun e w' => e = .returned (.int .i64 (addN l t : Int)) ∧ ∃ ev', Bk w' base p ev' nb fb (addL l t) ∧ Kept (BFoot p ev nb fb) w w' ∧ (ev'.ownBlock = ev.ownBlock ∨ ∀ k, ev'.ownBlock = some k → w.heap.size ≤ k) := by
  cases hi : nix l t with
  | some i =>
    refine (add_old w base p ev nb fb l h t ht i hi).mono ?_
    rintro e w' ⟨rfl, H, K⟩
    exact ⟨by simp [addN, hi], ev, by simpa [addL, hi] using H, Kept.mono K (fun _ _ x => x.elim), Or.inl rfl⟩
  | none =>
    refine (add_new w base p ev nb fb l h t ht hi hlt hbase).mono ?_
    rintro e w' ⟨rfl, ev', H, K, L⟩
    exact ⟨by simp [addN, hi], ev', by simpa [addL, hi] using H, K, L⟩

theorem Tells.empty : Tells [] (.map []) (.map []) :=
  ⟨rfl, fun t _ => ⟨rfl, rfl⟩, rfl, fun n _ => ⟨rfl, rfl⟩, by simp, List.nodup_nil, by simp⟩

theorem made_bank (w : World) : Bk (((w.alloc (Obj.map #[] 0)).alloc (Obj.map #[] 0)).alloc (Obj.cells #[.slice none 0 0, .map (some w.heap.size), .map (some (w.heap.size + 1))] 105)) w.heap.size (w.heap.size + 1 + 1) (.slice none 0 0) w.heap.size (w.heap.size + 1) [] := by
  have h1 : (w.alloc (Obj.map #[] 0)).heap.size = w.heap.size + 1 := by simp
  have h2 : ((w.alloc (Obj.map #[] 0)).alloc (Obj.map #[] 0)).heap.size = w.heap.size + 1 + 1 := by simp
  have m1 := World.ownsMap_made (H := Unit) w Try.prog 124 (plainElem Try.prog 3)
  have m2 := World.ownsMap_made (H := Unit) (w.alloc (Obj.map #[] 0)) Try.prog 9 (plainElem Try.prog 3)
  have r := made_row ((w.alloc (Obj.map #[] 0)).alloc (Obj.map #[] 0)) #[.slice none 0 0, .map (some w.heap.size), .map (some (w.heap.size + 1))] 105
  rw [h1] at m2
  rw [h2] at r
  refine Bq.whole (Dn := .map []) (Df := .map []) ⟨World.rowIs.congr r ?_, World.ownsRow_nil _ _ _ _, mapIs_of ((m1.alloc _).alloc _), mapIs_of (m2.alloc _), by omega, by omega, by omega, by simp [Value.ownBlock], by simp [Value.ownBlock], by simp [Value.ownBlock], by omega, by omega, by omega⟩ Tells.empty
  intro i hi
  have hi' : i < 3 := hi
  rcases (by omega : i = 0 ∨ i = 1 ∨ i = 2) with rfl | rfl | rfl <;> rfl

set_option maxHeartbeats 400000 in
theorem tNew_any (w : World) :
    Calls Try.prog 15 #[] w fun e w' => ∃ p nb fb, e = .returned (.pointer (some ⟨p, 0, none⟩)) ∧ Bk w' w.heap.size p (.slice none 0 0) nb fb [] ∧ Below w.heap.size w w' := by
  have hmm := @run_makeMap Try.prog
  go_enter Try.func15, Try.ntmps15
  go_wp2_with fail
  go_ret
  refine ⟨_, _, _, rfl, made_bank w, ?_⟩
  exact Kept.below (((Kept.refl (fun _ => False) w).alloc _ |>.alloc _).alloc _) (Nat.le_refl _) (fun _ x => x.elim)

end Go.Proofs.Ytinphcnknionmaa

namespace Go.Proofs.Ytinphcnknionmaa
open Go.RowKit Go.Maps

/-- Number i stands yet, when j terms behind the first s have been taken out. -/
def standsB (s j i : Nat) : Bool := decide (i < s ∨ s + j ≤ i)

structure Out (l r : List Tm) (j : Nat) (Dn Df : DataW Unit) : Prop where
  nsize : Maps.size Dn + j = (l ++ r).length
  nsays : ∀ t : Tm, t.ok → Says Dn (ekey t) ((nix (l ++ r) t).filter (standsB l.length j))
  fsize : Maps.size Df = ((List.range (l ++ r).length).filter (fun i => isF (l ++ r) i && standsB l.length j i)).length
  fsays : ∀ n : ByteArray, n.size ≤ 6 → Says Df (skey n) ((fst (l ++ r) n).filter (standsB l.length j))

theorem stands0 (s i : Nat) : standsB s 0 i = true := by unfold standsB; exact decide_eq_true (by omega)
theorem filter_all {α : Type} (p : α → Bool) (h : ∀ x, p x = true) (o : Option α) : o.filter p = o := by cases o <;> simp [Option.filter, h]

theorem Out.start {l r : List Tm} {Dn Df : DataW Unit} (T : Tells (l ++ r) Dn Df) : Out l r 0 Dn Df := by
  refine ⟨T.nsize, fun t ht => ?_, ?_, fun n hn => ?_⟩
  · rw [filter_all _ (stands0 _)]; exact T.nsays t ht
  · rw [T.fsize]
    unfold cntF
    congr 1
    exact List.filter_congr (fun i _ => by rw [stands0]; simp)
  · rw [filter_all _ (stands0 _)]; exact T.fsays n hn

theorem nix_some {l : List Tm} {t : Tm} {i : Nat} (h : nix l t = some i) : l[i]? = some t := by
  obtain ⟨hi, hp, _⟩ := List.findIdx?_eq_some_iff_getElem.1 h
  rw [List.getElem?_eq_getElem hi, of_decide_eq_true hp]

theorem nix_at {l : List Tm} (hd : l.Nodup) {i : Nat} {t : Tm} (h : l[i]? = some t) : nix l t = some i := by
  obtain ⟨hi, e⟩ := List.getElem?_eq_some_iff.1 h
  cases hx : nix l t with
  | none => exact absurd (e ▸ List.getElem_mem hi) (nix_none hx)
  | some k =>
    obtain ⟨hk, ek⟩ := List.getElem?_eq_some_iff.1 (nix_some hx)
    have := (List.getElem_inj hd (h₀ := hk) (h₁ := hi)).1 (ek.trans e.symm)
    rw [this]

theorem stands_step {s j i : Nat} (h : i ≠ s + j) : standsB s (j + 1) i = standsB s j i := by
  unfold standsB
  exact decide_eq_decide.2 (by omega)
theorem stands_gone (s j : Nat) : standsB s (j + 1) (s + j) = false := decide_eq_false (by omega)
theorem stands_here (s j : Nat) : standsB s j (s + j) = true := decide_eq_true (by omega)

theorem filter_step {o : Option Nat} {s j : Nat} (h : o ≠ some (s + j)) : o.filter (standsB s (j + 1)) = o.filter (standsB s j) := by
  cases o with
  | none => rfl
  | some i =>
    have hi : i ≠ s + j := fun e => h (by rw [e])
    simp [Option.filter, stands_step hi]

/-- One term of the map of numbers. -/
theorem Out.nstep {l r : List Tm} {j : Nat} {Dn Df : DataW Unit} (O : Out l r j Dn Df) (hd : (l ++ r).Nodup) {e : Tm} (he : r[j]? = some e) (ho : e.ok) (hD : Tidy Dn) :
    Maps.size (Dn.del (ekey e)) + (j + 1) = (l ++ r).length ∧ ∀ t : Tm, t.ok → Says (Dn.del (ekey e)) (ekey t) ((nix (l ++ r) t).filter (standsB l.length (j + 1))) := by
  have ha : (l ++ r)[l.length + j]? = some e := by rw [List.getElem?_append_right (by omega)]; simpa using he
  have hn := nix_at hd ha
  constructor
  · have h1 := size_del (k := ekey e) hD
    have h2 := (O.nsays e ho).1
    rw [hn] at h2
    simp [Option.filter, stands_here] at h2
    rw [h2] at h1
    have := O.nsize
    simp at h1
    omega
  · intro t ht
    by_cases h : t = e
    · subst h
      rw [hn]
      simp only [Option.filter, stands_gone]
      exact Says.del_same
    · have hne : nix (l ++ r) t ≠ some (l.length + j) := fun x => by
        have := nix_some x
        rw [ha] at this
        exact h (Option.some.inj this).symm
      rw [filter_step hne]
      exact (O.nsays t ht).del_other (fun x => h (ekey_inj ht ho x))

theorem filter_count {n : Nat} {p q : Nat → Bool} {k : Nat} (hk : k < n) (hp : p k = true) (hq : q k = false) (h : ∀ i, i ≠ k → q i = p i) : ((List.range n).filter q).length + 1 = ((List.range n).filter p).length := by
  induction n with
  | zero => omega
  | succ n ih =>
    rw [List.range_succ, List.filter_append, List.filter_append, List.length_append, List.length_append]
    by_cases e : k = n
    · subst e
      have e1 : (List.range k).filter q = (List.range k).filter p := List.filter_congr (fun i hi => h i (by have := List.mem_range.1 hi; omega))
      simp [e1, hp, hq]
    · have := ih (by omega)
      have hn : q n = p n := h n (fun x => e x.symm)
      simp only [List.filter_cons, hn, List.filter_nil]
      omega

theorem fst_at {l : List Tm} {n : ByteArray} {i : Nat} (h : fst l n = some i) {t : Tm} (ht : l[i]? = some t) : t.name = n := by
  obtain ⟨u, hu, hn⟩ := fst_some h
  rw [ht] at hu
  rw [Option.some.inj hu]
  exact hn

/-- The term's name had its first number here: it goes. -/
theorem Out.fgone {l r : List Tm} {j : Nat} {Dn Df : DataW Unit} (O : Out l r j Dn Df) {e : Tm} (he : r[j]? = some e) (ho : e.ok) (hf : fst (l ++ r) e.name = some (l.length + j)) (hD : Tidy Df) :
    Maps.size (Df.del (skey e.name)) = ((List.range (l ++ r).length).filter (fun i => isF (l ++ r) i && standsB l.length (j + 1) i)).length ∧
      ∀ n : ByteArray, n.size ≤ 6 → Says (Df.del (skey e.name)) (skey n) ((fst (l ++ r) n).filter (standsB l.length (j + 1))) := by
  have ha : (l ++ r)[l.length + j]? = some e := by rw [List.getElem?_append_right (by omega)]; simpa using he
  have hlt : l.length + j < (l ++ r).length := (List.getElem?_eq_some_iff.1 ha).1
  constructor
  · have h1 := size_del (k := skey e.name) hD
    have h2 := (O.fsays e.name ho.name).1
    rw [hf] at h2
    simp [Option.filter, stands_here] at h2
    rw [h2] at h1
    have h3 := O.fsize
    have h4 : isF (l ++ r) (l.length + j) = true := by unfold isF; rw [ha]; exact decide_eq_true hf
    have h5 := filter_count (p := fun i => isF (l ++ r) i && standsB l.length j i) (q := fun i => isF (l ++ r) i && standsB l.length (j + 1) i) hlt (by simp [h4, stands_here]) (by simp [stands_gone]) (fun i hi => by simp only [stands_step hi])
    simp only [if_true] at h1
    omega
  · intro n hn
    by_cases h : n = e.name
    · subst h
      rw [hf]
      simp only [Option.filter, stands_gone]
      exact Says.del_same
    · have hne : fst (l ++ r) n ≠ some (l.length + j) := fun x => h (fst_at x ha).symm
      rw [filter_step hne]
      exact (O.fsays n hn).del_other (fun x => h (skey_inj x))

/-- It had not: nothing goes. -/
theorem Out.fstays {l r : List Tm} {j : Nat} {Dn Df : DataW Unit} (O : Out l r j Dn Df) {e : Tm} (he : r[j]? = some e) (hf : fst (l ++ r) e.name ≠ some (l.length + j)) :
    Maps.size Df = ((List.range (l ++ r).length).filter (fun i => isF (l ++ r) i && standsB l.length (j + 1) i)).length ∧
      ∀ n : ByteArray, n.size ≤ 6 → Says Df (skey n) ((fst (l ++ r) n).filter (standsB l.length (j + 1))) := by
  have ha : (l ++ r)[l.length + j]? = some e := by rw [List.getElem?_append_right (by omega)]; simpa using he
  constructor
  · rw [O.fsize]
    congr 1
    apply List.filter_congr
    intro i _
    by_cases h : i = l.length + j
    · subst h
      have : isF (l ++ r) (l.length + j) = false := by unfold isF; rw [ha]; exact decide_eq_false hf
      simp [this]
    · rw [stands_step h]
  · intro n hn
    have hne : fst (l ++ r) n ≠ some (l.length + j) := fun x => hf (by rw [fst_at x ha]; exact x)
    rw [filter_step hne]
    exact O.fsays n hn

/-- What a look at the name says: whether the number is its first. -/
theorem look_first {l r : List Tm} {j : Nat} {e : Tm} (he : r[j]? = some e) :
    (((fst (l ++ r) e.name).filter (standsB l.length j)).getD 0 = l.length + j) ↔ fst (l ++ r) e.name = some (l.length + j) := by
  have ha : (l ++ r)[l.length + j]? = some e := by rw [List.getElem?_append_right (by omega)]; simpa using he
  obtain ⟨i, hi⟩ := fst_mem (List.mem_of_getElem? ha)
  rw [hi]
  by_cases h : standsB l.length j i = true
  · simp [Option.filter, h]
  · have h' : standsB l.length j i = false := by simpa using h
    simp only [Option.filter, h']
    have h2 := of_decide_eq_false h'
    simp
    omega

theorem nix_app (l r : List Tm) (t : Tm) : (nix (l ++ r) t).filter (standsB l.length r.length) = nix l t := by
  unfold nix
  rw [List.findIdx?_append]
  cases h : List.findIdx? (fun x => decide (x = t)) l with
  | some i =>
    have hi : i < l.length := (List.findIdx?_eq_some_iff_getElem.1 h).1
    have : standsB l.length r.length i = true := decide_eq_true (by omega)
    simp [Option.filter, this]
  | none =>
    cases h2 : List.findIdx? (fun x => decide (x = t)) r with
    | none => rfl
    | some k =>
      have hk : k < r.length := (List.findIdx?_eq_some_iff_getElem.1 h2).1
      have : standsB l.length r.length (k + l.length) = false := decide_eq_false (by omega)
      simp [Option.filter, this]

theorem fst_app (l r : List Tm) (n : ByteArray) : (fst (l ++ r) n).filter (standsB l.length r.length) = fst l n := by
  unfold fst
  rw [List.findIdx?_append]
  cases h : List.findIdx? (fun x => decide (x.name = n)) l with
  | some i =>
    have hi : i < l.length := (List.findIdx?_eq_some_iff_getElem.1 h).1
    have : standsB l.length r.length i = true := decide_eq_true (by omega)
    simp [Option.filter, this]
  | none =>
    cases h2 : List.findIdx? (fun x => decide (x.name = n)) r with
    | none => rfl
    | some k =>
      have hk : k < r.length := (List.findIdx?_eq_some_iff_getElem.1 h2).1
      have : standsB l.length r.length (k + l.length) = false := decide_eq_false (by omega)
      simp [Option.filter, this]

theorem isF_app (l r : List Tm) {i : Nat} (hi : i < l.length) : isF (l ++ r) i = isF l i := by
  unfold isF
  rw [List.getElem?_append_left hi, List.getElem?_eq_getElem hi]
  obtain ⟨k, hk⟩ := fst_mem (List.getElem_mem hi)
  have e : fst (l ++ r) l[i].name = fst l l[i].name := by
    rw [hk]
    unfold fst at hk ⊢
    rw [List.findIdx?_append, hk]
    rfl
  simp only [e]

theorem count_app (l r : List Tm) : ((List.range (l ++ r).length).filter (fun i => isF (l ++ r) i && standsB l.length r.length i)).length = cntF l := by
  unfold cntF
  rw [List.length_append, List.range_add, List.filter_append, List.length_append]
  have e1 : (List.range l.length).filter (fun i => isF (l ++ r) i && standsB l.length r.length i) = (List.range l.length).filter (isF l) := List.filter_congr (fun i hi => by
    have h := List.mem_range.1 hi
    have : standsB l.length r.length i = true := decide_eq_true (by omega)
    rw [isF_app l r h, this]; simp)
  have e2 : ((List.range r.length).map (fun x => l.length + x)).filter (fun i => isF (l ++ r) i && standsB l.length r.length i) = [] := List.filter_eq_nil_iff.2 (fun i hi => by
    obtain ⟨k, hk, rfl⟩ := List.mem_map.1 hi
    have h := List.mem_range.1 hk
    have : standsB l.length r.length (l.length + k) = false := decide_eq_false (by omega)
    simp [this])
  rw [e1, e2]
  simp

/-- All of r is taken out: what is left says l. -/
theorem Out.done {l r : List Tm} {Dn Df : DataW Unit} (O : Out l r r.length Dn Df) (ho : ∀ t ∈ l, t.ok) (hd : l.Nodup) (hs : l.length ≤ 1000) : Tells l Dn Df := by
  refine ⟨?_, fun t ht => ?_, ?_, fun n hn => ?_, ho, hd, hs⟩
  · have := O.nsize
    simp at this
    omega
  · rw [← nix_app l r]; exact O.nsays t ht
  · rw [O.fsize]; exact count_app l r
  · rw [← fst_app l r]; exact O.fsays n hn

end Go.Proofs.Ytinphcnknionmaa

namespace Go.Proofs.Ytinphcnknionmaa
open Go.RowKit Go.Maps

/-- A row by what is ahead of its cut. -/
def RowTo (w : World) (base g cap k : Nat) (xs : List Value) : Prop :=
  ∃ cur, base ≤ g ∧ w.heap[g]? = some (.cells cur 124 (0, 0)) ∧ cap ≤ maxLen ∧ cur.size = cap * 6 ∧ cur.toList.take (k * 6) = xs

theorem RowTo.owns {w : World} {base g cap k : Nat} {xs : List Value} (h : RowTo w base g cap k xs) (hk : k ≤ cap) : w.ownsRow base 124 6 (.slice (some ⟨g, 0, none⟩) k cap) k xs := by
  obtain ⟨cur, h1, h2, h3, h4, h5⟩ := h
  refine ⟨?_, Or.inr ⟨g, cap, cur, rfl, h1, h2, hk, h3, h4, h5⟩⟩
  rw [← h5, List.length_take]
  simp [h4]
  omega

theorem RowTo.of {w : World} {base g cap n : Nat} {xs : List Value} (h : w.ownsRow base 124 6 (.slice (some ⟨g, 0, none⟩) n cap) n xs) {k : Nat} (hk : k ≤ n) : RowTo w base g cap k (xs.take (k * 6)) ∧ n ≤ cap := by
  rcases h.2 with ⟨e, _⟩ | ⟨g', cap', cur, e, h1, h2, h3, h4, h5, h6⟩
  · cases e
  · injection e with e1 e2 e3
    injection e1 with e1
    injection e1 with e1 _ _
    subst e1
    subst e3
    refine ⟨⟨cur, h1, h2, h4, h5, ?_⟩, h3⟩
    rw [← h6, List.take_take]
    congr 1
    omega

theorem RowTo.set {w : World} {base g cap k : Nat} {xs : List Value} (h : RowTo w base g cap k xs) {o : Nat} (ho : k * 6 ≤ o) (u : Value) : RowTo (w.setCell ⟨g, o, none⟩ u) base g cap k xs := by
  obtain ⟨cur, h1, h2, h3, h4, h5⟩ := h
  refine ⟨cur.setIfInBounds o u, h1, ?_, h3, by simpa using h4, ?_⟩
  · rw [setCell_eq_setRow w g o cur _ (0, 0) _ h2, setRow_heap w g _ _ _ _ h2]
  · rw [← h5]
    simp [List.take_set]
    rw [List.set_eq_of_length_le]
    simp
    omega

theorem RowTo.sets {base g cap k : Nat} {xs : List Value} : ∀ (vs : List Value) (o : Nat) (w : World), RowTo w base g cap k xs → k * 6 ≤ o → RowTo (w.setCells g o vs) base g cap k xs
  | [], _, _, h, _ => h
  | v :: vs, o, w, h, ho => RowTo.sets vs (o + 1) (w.setCell ⟨g, o, none⟩ v) (h.set ho v) (by omega)

/-- 'clear(s)' of elements of several cells. -/
theorem run_clear_many {P : Program} (w : World) (t e ty : TypeId) (z : Value) (ht : P.underlying t = some (.slice e)) (hv : ∀ w, (zeroValue e).run P w = .ok z w) (b o n c : Nat) (hn : 0 < n) (vs : List Value) (hvs : (Builtin.zeroCells z.cells n).toList = vs) (h1 : ∀ v ∈ vs, v.oneCell' = true)
    (hc : ∀ j, j < vs.length → (w.cell? ⟨b, o + j, none⟩).isSome = true) (hf : ∀ j, j < vs.length → w.frozen? ⟨b, o + j, none⟩ = false) :
    (Builtin.clear_ #[t] ty #[.slice (some ⟨b, o, none⟩) n c]).run P w = .ok (.tuple #[]) (w.setCells b o vs) := by
  have hst := run_storeCells_cells (P := P) b o vs 0 w (by simpa using hc) (by simpa using hf) h1
  simp only [Nat.add_zero] at hst
  obtain ⟨m, rfl⟩ : ∃ m, n = m + 1 := ⟨n - 1, by omega⟩
  simp [Builtin.clear_, run_underlying ht, hv, hvs, hst]

end Go.Proofs.Ytinphcnknionmaa
