/- Package term: add, where the term is new. Package logic: termEnd. Package term: add as one; New. Package logic: a map of how often each Pair came. Package term: what takeOut leaves, plainly. Package close: a closure in memory. Package logic: what makes clauses, in memory. Package term: clear of the end of a row of entries. Package close: signature. Package logic: what makes clauses: say, both. Package close: what changes the classes, part by part. Package close: together. slices.Sort at numbers in a row of one's own. Package term: takeOut. -/
import Derived.Test.YtlehlgipbhfioaaGreatP04
import Derived.Lib.ConvBytes
import Derived.Deep.RegionWith
import Derived.Test.YtlehlgipbhfioaaGreatP00
import Derived.WideKeyEntry
import Derived.Maps.AppendAt
import Derived.Lib.SliceRun
import Derived.Deep.RegionLaw
import Derived.Sort.OwnSortedInts
namespace Go.Proofs.YtlehlgipbhfioaaGreat
open Go.RowKit Go.Maps

theorem infoEntry : (Tryz.prog.info? 152).map (fun i => (i.zero, i.size, i.bytes)) = some (some (.agg #[.string ⟨#[]⟩, .int .i64 0, .int .i64 0, .int .i64 0, .int .i64 0, .int .i64 0]), 6, 56) := by kernel_rfl

/-- The cells of a box that holds an entry. -/
def boxF (t : Tm) (j : Nat) : Value := (entryL t).toArray[j]?.getD undef
abbrev Boxed (w : World) (b : Nat) (t : Tm) : Prop := w.rowIs b 152 6 (boxF t)
theorem boxed_row (w : World) (t : Tm) : Boxed (w.alloc (.cells (entryL t).toArray 152)) w.heap.size t := made_row w (entryL t).toArray 152

theorem Boxed.c0 {w : World} {b : Nat} {t : Tm} (h : Boxed w b t) : w.cell? ⟨b, 0, none⟩ = some (.string t.name) := h.cell (i := 0) (by omega)
theorem Boxed.c1 {w : World} {b : Nat} {t : Tm} (h : Boxed w b t) : w.cell? ⟨b, 1, none⟩ = some (.int .i64 (t.args.length : Int)) := h.cell (i := 1) (by omega)
theorem Boxed.c2 {w : World} {b : Nat} {t : Tm} (h : Boxed w b t) : w.cell? ⟨b, 2, none⟩ = some (.int .i64 (t.arg 0 : Int)) := h.cell (i := 2) (by omega)
theorem Boxed.c3 {w : World} {b : Nat} {t : Tm} (h : Boxed w b t) : w.cell? ⟨b, 3, none⟩ = some (.int .i64 (t.arg 1 : Int)) := h.cell (i := 3) (by omega)
theorem Boxed.c4 {w : World} {b : Nat} {t : Tm} (h : Boxed w b t) : w.cell? ⟨b, 4, none⟩ = some (.int .i64 (t.arg 2 : Int)) := h.cell (i := 4) (by omega)
theorem Boxed.c5 {w : World} {b : Nat} {t : Tm} (h : Boxed w b t) : w.cell? ⟨b, 5, none⟩ = some (.int .i64 (t.arg 3 : Int)) := h.cell (i := 5) (by omega)
theorem Boxed.kept0 {w w' : World} {b : Nat} {t : Tm} (h : Boxed w b t) (K : Kept0 w w') : Boxed w' b t := World.rowIs.of_block h (K.block b (World.rowIs.lt h) (fun e => e))
theorem Boxed.named {w : World} {b : Nat} {t : Tm} (h : Boxed w b t) : Boxed (w.setCell ⟨b, 0, none⟩ (.string t.name)) b t :=
  World.rowIs.congr (World.rowIs.set h 0 (.string t.name)) (fun j hj => by
    by_cases e : j = 0
    · subst e; rfl
    · simp [e])

/-- A bank's row and maps, whatever they say. -/
structure Bq (w : World) (base p : Nat) (ev : Value) (nb fb : Nat) (l : List Tm) (Dn Df : DataW Unit) : Prop where
  bank : w.rowIs p 84 3 (bankC ev nb fb)
  rows : w.ownsRow base 152 6 ev l.length (l.flatMap entryL)
  nums : mapIs w 152 nb Dn
  fsts : mapIs w 9 fb Df
  pn : p ≠ nb
  pf : p ≠ fb
  nf : nb ≠ fb
  ep : ev.ownBlock ≠ some p
  en : ev.ownBlock ≠ some nb
  ef : ev.ownBlock ≠ some fb
  bp : base ≤ p
  bn : base ≤ nb
  bf : base ≤ fb

structure Tells (l : List Tm) (Dn Df : DataW Unit) : Prop where
  nsize : Maps.size Dn = l.length
  nsays : ∀ t : Tm, t.ok → Says Dn (ekey t) (nix l t)
  fsize : Maps.size Df = cntF l
  fsays : ∀ n : ByteArray, n.size ≤ 6 → Says Df (skey n) (fst l n)
  oks : ∀ t ∈ l, t.ok
  nodup : l.Nodup
  small : l.length ≤ 1000

theorem Bk.split {w : World} {base p : Nat} {ev : Value} {nb fb : Nat} {l : List Tm} (h : Bk w base p ev nb fb l) : ∃ Dn Df, Bq w base p ev nb fb l Dn Df ∧ Tells l Dn Df := by
  obtain ⟨Dn, n1, n2, n3⟩ := h.nums
  obtain ⟨Df, f1, f2, f3⟩ := h.fsts
  exact ⟨Dn, Df, ⟨h.bank, h.rows, n1, f1, h.pn, h.pf, h.nf, h.ep, h.en, h.ef, h.bp, h.bn, h.bf⟩, ⟨n2, n3, f2, f3, h.oks, h.nodup, h.small⟩⟩
theorem Bq.whole {w : World} {base p : Nat} {ev : Value} {nb fb : Nat} {l : List Tm} {Dn Df : DataW Unit} (h : Bq w base p ev nb fb l Dn Df) (T : Tells l Dn Df) : Bk w base p ev nb fb l :=
  ⟨h.bank, h.rows, ⟨Dn, h.nums, T.nsize, T.nsays⟩, ⟨Df, h.fsts, T.fsize, T.fsays⟩, T.oks, T.nodup, h.pn, h.pf, h.nf, h.ep, h.en, h.ef, h.bp, h.bn, h.bf, T.small⟩

theorem mapIs_type {w : World} {b k : Nat} {kt e : TypeId} {D : DataW Unit} (h : mapIs w kt b D) {base size : Nat} {v : Value} {xs : List Value} (hr : w.ownsRow base e size v k xs) : v.ownBlock ≠ some b := by
  intro hb
  obtain ⟨es, clock, hm, _⟩ := h
  rcases hr.2 with ⟨rfl, _⟩ | ⟨g, cap, cur, rfl, _, hg, _⟩
  · simp [Value.ownBlock] at hb
  · simp [Value.ownBlock] at hb
    subst hb
    rw [hm] at hg
    cases hg

theorem six_news (w : World) (m : Nat) (t : Tm) : ∀ j u, (entryL t)[j]? = some u → ((w.drewN m).alloc (.cells (entryL t).toArray 152)).cell? ((⟨w.heap.size, 0, none⟩ : Addr).add j) = some u := by
  intro j u hj
  have e := boxed (w.drewN m) t j u hj
  have ea : ((⟨w.heap.size, 0, none⟩ : Addr).add j) = ⟨w.heap.size, j, none⟩ := by
    simp [Addr.add]
    intro e0
    rw [e0]
  rw [ea]
  exact e

/-- A term is kept in the row: the maps are as they were. -/
theorem Bq.appended {w w1 : World} {base p : Nat} {ev : Value} {nb fb : Nat} {l : List Tm} {Dn Df : DataW Unit} (h : Bq w base p ev nb fb l Dn Df) (m : Nat) (O : Obj) (t : Tm) (v' : Value)
    (hown : w1.ownsRow base 152 6 v' (l.length + 1) (l.flatMap entryL ++ entryL t)) (hgrow : ((w.drewN m).alloc O).grownBy w1 ev.ownBlock)
    (hloc : v'.ownBlock = ev.ownBlock ∨ ∀ k, v'.ownBlock = some k → ((w.drewN m).alloc O).heap.size ≤ k) :
    Bq (w1.setCell ⟨p, 0, none⟩ v') base p v' nb fb (l ++ [t]) Dn Df ∧ Kept (BFoot p ev nb fb) w (w1.setCell ⟨p, 0, none⟩ v') ∧ (v'.ownBlock = ev.ownBlock ∨ ∀ k, v'.ownBlock = some k → w.heap.size ≤ k) ∧
      w1.cell? ⟨p, 0, none⟩ = some ev ∧ w1.frozen? ⟨p, 0, none⟩ = false := by
  have hb0 : ((w.drewN m).alloc O).rowIs p 84 3 (bankC ev nb fb) := World.rowIs.alloc (World.rowIs.of_block h.bank rfl) O
  have hp : w1.rowIs p 84 3 (bankC ev nb fb) := hb0.of_block (hgrow.block p hb0.lt (fun e => h.ep e.symm))
  have n0 : mapIs ((w.drewN m).alloc O) 152 nb Dn := World.ownsMap.alloc h.nums O
  have f0 : mapIs ((w.drewN m).alloc O) 9 fb Df := World.ownsMap.alloc h.fsts O
  have n1 : mapIs w1 152 nb Dn := World.ownsMap.kept n0 hgrow (fun e => h.en e.symm)
  have f1 : mapIs w1 9 fb Df := World.ownsMap.kept f0 hgrow (fun e => h.ef e.symm)
  have np := rowIs_type hp (by decide) hown
  refine ⟨⟨(hp.set 0 v').congr ?_, ?_, World.ownsMap.setCell n1 (Ne.symm h.pn) _, World.ownsMap.setCell f1 (Ne.symm h.pf) _, h.pn, h.pf, h.nf, np, mapIs_type n1 hown, mapIs_type f1 hown, h.bp, h.bn, h.bf⟩, ?_, ?_, hp.cell (i := 0) (by omega), hp.frozen 0⟩
  · intro i hi
    rcases (by omega : i = 0 ∨ i = 1 ∨ i = 2) with rfl | rfl | rfl <;> simp [bankC]
  · rw [List.length_append, List.flatMap_append]
    simpa using ownsRow_setCell_other hown np _
  · exact Kept.setCell (S := BFoot p ev nb fb) (p := ⟨p, 0, none⟩) (Kept.grown (((Kept.refl (BFoot p ev nb fb) w).drewN m).alloc O) hgrow (fun k hk => Or.inr (Or.inr (Or.inr hk)))) (Or.inl rfl) _
  · rcases hloc with e | e
    · exact Or.inl e
    · exact Or.inr fun k hk => by have := e k hk; simp at this; omega

theorem Kept1.of_grown {b : Nat} {w w' : World} (h : w.grownBy w' (some b)) : Kept1 b w w' := ⟨h.os, h.tape, h.output, h.size, fun k hk hs => h.block k hk (fun e => hs (by simpa using e))⟩

theorem Bq.drew {w : World} {base p : Nat} {ev : Value} {nb fb : Nat} {l : List Tm} {Dn Df : DataW Unit} (h : Bq w base p ev nb fb l Dn Df) : Bq w.drew base p ev nb fb l Dn Df :=
  ⟨h.bank, h.rows, h.nums, h.fsts, h.pn, h.pf, h.nf, h.ep, h.en, h.ef, h.bp, h.bn, h.bf⟩
theorem Bq.drewN {w : World} {base p : Nat} {ev : Value} {nb fb : Nat} {l : List Tm} {Dn Df : DataW Unit} (h : Bq w base p ev nb fb l Dn Df) (m : Nat) : Bq (w.drewN m) base p ev nb fb l Dn Df :=
  ⟨h.bank, h.rows, h.nums, h.fsts, h.pn, h.pf, h.nf, h.ep, h.en, h.ef, h.bp, h.bn, h.bf⟩

theorem Bq.storeN {w : World} {base p : Nat} {ev : Value} {nb fb : Nat} {l : List Tm} {Dn Df : DataW Unit} (h : Bq w base p ev nb fb l Dn Df) {t : Tm} (ht : t.ok) {n : Nat} (hn : n < 100000) (hs : Maps.size Dn < maxLen) :
    ∃ w', (Instr.mapUpdate 80 (.map (some nb)) (entryV t) (.int .i64 (n : Int))).run Tryz.prog w = .ok () w' ∧ Bq w' base p ev nb fb l (Dn.put (ekey t) (.lit (.int .i64 (n : Int)))) Df ∧ Kept1 nb w w' := by
  obtain ⟨w', hr, ho, hturn⟩ := World.ownsMap.store h.nums tLaw Tryz.underlying80 hs (ekey_of ht) (plainElem_int Tryz.underlying3 (wf64 hn))
  have g := hturn.grown
  exact ⟨w', hr, ⟨h.bank.of_block (g.block p h.bank.lt (by simpa using h.pn)), h.rows.kept g (Or.inr h.en), mapIs_of ho, World.ownsMap.kept h.fsts g (by simpa using Ne.symm h.nf), h.pn, h.pf, h.nf, h.ep, h.en, h.ef, h.bp, h.bn, h.bf⟩, Kept1.of_grown g⟩

theorem Bq.storeF {w : World} {base p : Nat} {ev : Value} {nb fb : Nat} {l : List Tm} {Dn Df : DataW Unit} (h : Bq w base p ev nb fb l Dn Df) {s : ByteArray} (ht : s.size ≤ 6) {n : Nat} (hn : n < 100000) (hs : Maps.size Df < maxLen) :
    ∃ w', (Instr.mapUpdate 81 (.map (some fb)) (.string s) (.int .i64 (n : Int))).run Tryz.prog w = .ok () w' ∧ Bq w' base p ev nb fb l Dn (Df.put (skey s) (.lit (.int .i64 (n : Int)))) ∧ Kept1 fb w w' := by
  obtain ⟨w', hr, ho, hturn⟩ := World.ownsMap.store h.fsts sLaw Tryz.underlying81 hs (skey_of ht) (plainElem_int Tryz.underlying3 (wf64 hn))
  have g := hturn.grown
  exact ⟨w', hr, ⟨h.bank.of_block (g.block p h.bank.lt (by simpa using h.pf)), h.rows.kept g (Or.inr h.ef), World.ownsMap.kept h.nums g (by simpa using h.nf), mapIs_of ho, h.pn, h.pf, h.nf, h.ep, h.en, h.ef, h.bp, h.bn, h.bf⟩, Kept1.of_grown g⟩

/-- 'm[k] = v' as one step of a region that draws. -/
theorem step_mapUpdate {P : Program} {ops : Array Oper} {o : Oper} {a : Act} {w : World} {K : Act → World → Prop} {Q : Exit → Act → World → Prop} {E : Prop} {R : World → Prop}
    (hg : o.guard = none) (m x v : Operand) (t : TypeId) (hop : o.op = Op.mapUpdate t m x v) (mv key val : Value) (hm : a.eval m = mv) (hx : a.eval x = key) (hv : a.eval v = val)
    (hex : ∃ w', (Instr.mapUpdate t mv key val).run P w = .ok () w' ∧ R w') (hK : ∀ w', R w' → K (a.put o.dst undef) w') :
    if Region.wanted o (yielded ops a.tmps) = true then Oper.wp P o a w K Q else E := by
  have hw : Region.wanted o (yielded ops a.tmps) = true := by simp [Region.wanted, hg]
  rw [if_pos hw]
  obtain ⟨w', hrun, r⟩ := hex
  unfold Oper.wp
  simp [execOp, hop, hm, hx, hv, hrun, Result.andThen]
  exact hK w' r

theorem Tells.nput {l : List Tm} {Dn Df : DataW Unit} (T : Tells l Dn Df) {t : Tm} (ht : t.ok) (hi : nix l t = none) (hD : Tidy Dn) : Maps.size (Dn.put (ekey t) (.lit (.int .i64 (l.length : Int)))) = l.length + 1 := by
  have hh := (T.nsays t ht).1
  rw [hi] at hh
  rw [size_put hD, hh, T.nsize]
  rfl
theorem nodup_snoc {l : List Tm} {t : Tm} (h : l.Nodup) (hi : nix l t = none) : (l ++ [t]).Nodup := by
  rw [List.nodup_append]
  exact ⟨h, by simp, fun a ha b hb e => by simp at hb; subst hb; subst e; exact nix_none hi ha⟩
theorem oks_snoc {l : List Tm} {t : Tm} (h : ∀ u ∈ l, u.ok) (ht : t.ok) : ∀ u ∈ l ++ [t], u.ok := by
  intro u hu
  rcases List.mem_append.1 hu with hu | hu
  · exact h u hu
  · simp at hu; subst hu; exact ht
theorem Tells.snoc_new {l : List Tm} {Dn Df : DataW Unit} (T : Tells l Dn Df) {t : Tm} (ht : t.ok) (hi : nix l t = none) (hf : fst l t.name = none) (hlt : l.length < 1000) (hD : Tidy Dn) (hF : Tidy Df) :
    Tells (l ++ [t]) (Dn.put (ekey t) (.lit (.int .i64 (l.length : Int)))) (Df.put (skey t.name) (.lit (.int .i64 (l.length : Int)))) := by
  refine ⟨by rw [T.nput ht hi hD]; simp, nums_snoc T.nsays hD.isMap ht hi, ?_, fsts_snoc T.fsays hF.isMap ht hf, oks_snoc T.oks ht, nodup_snoc T.nodup hi, by simp; omega⟩
  have hh := (T.fsays t.name ht.name).1
  rw [hf] at hh
  rw [size_put hF, hh, T.fsize, cntF_snoc, hf]
  rfl
theorem Tells.snoc_old {l : List Tm} {Dn Df : DataW Unit} (T : Tells l Dn Df) {t : Tm} (ht : t.ok) (hi : nix l t = none) {i : Nat} (hf : fst l t.name = some i) (hlt : l.length < 1000) (hD : Tidy Dn) :
    Tells (l ++ [t]) (Dn.put (ekey t) (.lit (.int .i64 (l.length : Int)))) Df := by
  refine ⟨by rw [T.nput ht hi hD]; simp, nums_snoc T.nsays hD.isMap ht hi, ?_, fsts_kept T.fsays hf, oks_snoc T.oks ht, nodup_snoc T.nodup hi, by simp; omega⟩
  rw [T.fsize, cntF_snoc, hf]
  rfl

set_option maxHeartbeats 1000000 in
theorem add_new (w : World) (base p : Nat) (ev : Value) (nb fb : Nat) (l : List Tm) (h : Bk w base p ev nb fb l) (t : Tm) (ht : t.ok) (hi : nix l t = none) (hlt : l.length < 1000) (hbase : base ≤ w.heap.size) :
    Calls Tryz.prog 105 #[.pointer (some ⟨p, 0, none⟩), entryV t] w fun e w' => e = .returned (.int .i64 (l.length : Int)) ∧ ∃ ev', Bk w' base p ev' nb fb (l ++ [t]) ∧ Kept (BFoot p ev nb fb) w w' ∧ (ev'.ownBlock = ev.ownBlock ∨ ∀ k, ev'.ownBlock = some k → w.heap.size ≤ k) := by
  unfold entryV
  have bR := boxed_row w t
  have W1 : (entryL t).toArray = #[.string t.name, .int .i64 (t.args.length : Int), .int .i64 (t.arg 0 : Int), .int .i64 (t.arg 1 : Int), .int .i64 (t.arg 2 : Int), .int .i64 (t.arg 3 : Int)] := rfl
  rw [W1] at bR ⊢
  clear W1
  obtain ⟨ea, ec, rfl⟩ := h.eform
  have hpl := h.bank.lt
  obtain ⟨Dn0, Df0, hq0, _⟩ := h.split
  have hnl := World.ownsMap.lt hq0.nums
  have hfl := World.ownsMap.lt hq0.fsts
  have hev : (Value.slice ea l.length ec).ownBlock ≠ some w.heap.size := fun e => by have := (h.rows.lt _ e).2; omega
  clear hq0
  go_enter Tryz.func105, Tryz.ntmps105
  go_wp2_with fail
  generalize hw1 : w.alloc (Obj.cells #[.string t.name, .int .i64 (t.args.length : Int), .int .i64 (t.arg 0 : Int), .int .i64 (t.arg 1 : Int), .int .i64 (t.arg 2 : Int), .int .i64 (t.arg 3 : Int)] 152) = w1 at bR ⊢
  have K1 : Kept0 w w1 := hw1 ▸ Kept.alloc (Kept.refl _ w) _
  have hsz1 : w.heap.size < w1.heap.size := bR.lt
  clear hw1
  have H1 := h.kept0 K1
  generalize hbx : w.heap.size = bx at *
  have hpb : ¬ p = bx := by omega
  have c1 := H1.c1
  have x0 := bR.c0
  have x1 := bR.c1
  have x2 := bR.c2
  have x3 := bR.c3
  have x4 := bR.c4
  have x5 := bR.c5
  have LN := fun m => (H1.drewN m).lookN ht
  rw [hi] at LN
  simp only [Option.getD_none, Option.isSome_none, entryV, entryL] at LN
  go_quiet (fail)
  clear LN x1 x2 x3 x4 x5 c1
  have bRd := fun m => (World.rowIs.of_block bR rfl : Boxed (w1.drewN m) bx t)
  go_wp2_with (go_at_call 151; go_loud (refine (clone_any _ _ ht.name).mono ?_; rintro e w2 ⟨rfl, K2⟩; have bR2 := Boxed.kept0 (bRd _) K2; have y0 := Boxed.c0 bR2; have f0 := World.rowIs.frozen bR2 0; have H2 := Bk.kept0 (H1.drewN _) K2; have z0 := H2.c0; have hpb' := hpb))
  have H3 := Bk.kept1 H2 (Kept1.set (Kept.refl _ w2) 0 (.string t.name) : Kept1 bx w2 _) hpb (by omega) (by omega) hev
  have K3 : Kept0 w (w2.setCell ⟨bx, 0, none⟩ (.string t.name)) := Kept.mono (S := fun k => k = bx) (Kept1.set (Kept.mono ((Kept.drewN K1 nq).trans K2) (fun _ _ x => x.elim)) 0 _) (fun k hk e => by omega)
  have b3 := Boxed.named bR2
  clear H1 H2 K1 K2 bR bR2 bRd y0 f0 z0 x0 hpb'
  generalize w2.setCell ⟨bx, 0, none⟩ (.string t.name) = w3 at *
  obtain ⟨Dn, Df, Q3, T3⟩ := H3.split
  clear H3
  have hb3 : base ≤ w3.heap.size := by have := K3.size; omega
  have y0 := b3.c0
  have y1 := b3.c1
  have y2 := b3.c2
  have y3 := b3.c3
  have y4 := b3.c4
  have y5 := b3.c5
  have c0 : w3.cell? ⟨p, 0, none⟩ = some (.slice ea l.length ec) := Q3.bank.cell (by omega)
  have A0 : ∀ m O, ((w3.drewN m).alloc O).cell? ⟨p, 0, none⟩ = some (.slice ea l.length ec) := fun m O => World.rowIs.cell (World.rowIs.alloc (World.rowIs.of_block Q3.bank rfl : (w3.drewN m).rowIs p 84 3 (bankC (.slice ea l.length ec) nb fb)) O) (by omega)
  have A1 : ∀ O, (w3.alloc O).cell? ⟨p, 0, none⟩ = some (.slice ea l.length ec) := fun O => World.rowIs.cell (World.rowIs.alloc Q3.bank O) (by omega)
  have OWN : ∀ m O, ((w3.drewN m).alloc O).ownsRow base 152 6 (.slice ea l.length ec) l.length (l.flatMap entryL) := fun m O => World.ownsRow.alloc (w := w3.drewN m) Q3.rows O
  have NEW := fun m => six_news w3 m t
  have hEL : entryL t = [.string t.name, .int .i64 (t.args.length : Int), .int .i64 (t.arg 0 : Int), .int .i64 (t.arg 1 : Int), .int .i64 (t.arg 2 : Int), .int .i64 (t.arg 3 : Int)] := rfl
  simp only [hEL] at NEW
  obtain ⟨i0, hi0, hz0, hz1, hz2⟩ := info_parts infoEntry
  go_region_law (refine step_append_here rfl (.tmp 34) (.tmp 36) 82 rfl base 152 i0 _ 6 56 Tryz.underlying82 hi0 hz0 hz1 hz2 rfl (by decide) _ l.length (l.flatMap entryL) (by simp [Act.eval]; rfl) (by exact OWN _ _) ⟨w3.heap.size, 0, none⟩ 1 1 [.string t.name, .int .i64 (t.args.length : Int), .int .i64 (t.arg 0 : Int), .int .i64 (t.arg 1 : Int), .int .i64 (t.arg 2 : Int), .int .i64 (t.arg 3 : Int)] (by simp [Act.eval]) rfl (by exact NEW _) (by simp [Value.oneCell']) (by unfold maxLen; omega) (by omega) (by simp; omega) ?_; intro v' w4 hown1 hgrow hloc; obtain ⟨Q4, K4, L4, kp1, kf1⟩ := Bq.appended Q3 _ _ t v' hown1 hgrow hloc; obtain ⟨b1, cap1, hv1⟩ := ownsRow_succ hown1; subst hv1)
  all_goals
    clear hown1 hgrow hloc kp1 kf1 A0 A1 OWN NEW y0 y1 y2 y3 y4 y5 c0
    go_wp2_with fail
    generalize hv5 : Value.slice (some (⟨b1, 0, none⟩ : Addr)) (l.length + 1) cap1 = v5 at *
    have b5 : Boxed (w4.setCell ⟨p, 0, none⟩ v5) bx t := World.rowIs.of_block b3 (K4.block bx (World.rowIs.lt b3) (fun x => by
      rcases x with x | x | x | x
      · exact hpb x.symm
      · omega
      · omega
      · exact hev x))
    generalize w4.setCell ⟨p, 0, none⟩ v5 = w5 at *
    have d1 : w5.cell? ⟨p, 1, none⟩ = some (.map (some nb)) := Q4.bank.cell (i := 1) (by omega)
    have y0 := b5.c0
    have y1 := b5.c1
    have y2 := b5.c2
    have y3 := b5.c3
    have y4 := b5.c4
    have y5 := b5.c5
    have hsn : Maps.size Dn < maxLen := by have := T3.nsize; unfold maxLen; omega
    obtain ⟨w6, hr6, Q6, K6⟩ := Bq.storeN Q4.drew ht (n := l.length) (by omega) hsn
    simp only [entryV, hEL] at hr6
    go_region
    clear hr6 y1 y2 y3 y4 y5 d1
    have b6 : Boxed w6 bx t := World.rowIs.of_block (World.rowIs.of_block b5 rfl : Boxed w5.drew bx t) (K6.block bx (World.rowIs.lt b5) (by omega))
    have y0 := b6.c0
    have d2 : w6.cell? ⟨p, 2, none⟩ = some (.map (some fb)) := Q6.bank.cell (i := 2) (by omega)
    have LF := fun m => Says.look (Q6.drewN m).fsts (T3.fsays t.name ht.name) sLaw Tryz.underlying81 (skey_of ht.name)
    cases hf : fst l t.name with
    | none =>
      rw [hf] at LF
      simp only [Option.getD_none, Option.isSome_none] at LF
      go_wp2_with fail
      go_quiet (fail)
      go_wp2_with fail
      clear LF
      have hsf : Maps.size Df < maxLen := by have := T3.fsize; have := cntF_le l; unfold maxLen; omega
      have z0 : ∀ m, (w6.drewN m).cell? ⟨bx, 0, none⟩ = some (.string t.name) := fun m => y0
      have z2 : ∀ m, (w6.drewN m).cell? ⟨p, 2, none⟩ = some (.map (some fb)) := fun m => d2
      obtain ⟨w7, hr7, Q7, K7⟩ := Bq.storeF (Q6.drewN (nq + 1)) ht.name (n := l.length) (by omega) hsf
      go_region
      all_goals
        go_wp2_with fail
        go_ret
        refine ⟨rfl, v5, Q7.whole (T3.snoc_new ht hi hf hlt (World.ownsMap.tidy Q3.nums tLaw) (World.ownsMap.tidy Q3.fsts sLaw)), ?_, ?_⟩
        · exact ((Kept.mono K3 (fun _ _ x => x.elim)).trans K4).drew.trans ((Kept.mono K6 (fun _ _ x => Or.inr (Or.inl x))).drewN _ |>.trans (Kept.mono K7 (fun _ _ x => Or.inr (Or.inr (Or.inl x)))))
        · exact L4.imp id (fun x k hk => Nat.le_trans K3.size (x k hk))
    | some i =>
      rw [hf] at LF
      simp only [Option.getD_some, Option.isSome_some] at LF
      go_wp2_with fail
      go_quiet (fail)
      go_wp2_with fail
      go_ret
      refine ⟨rfl, v5, (Q6.drewN _).whole (T3.snoc_old ht hi hf hlt (World.ownsMap.tidy Q3.nums tLaw)), ?_, ?_⟩
      · exact (((Kept.mono K3 (fun _ _ x => x.elim)).trans K4).drew.trans (Kept.mono K6 (fun _ _ x => Or.inr (Or.inl x)))).drewN _
      · exact L4.imp id (fun x k hk => Nat.le_trans K3.size (x k hk))

end Go.Proofs.YtlehlgipbhfioaaGreat

namespace Go.Proofs.YtlehlgipbhfioaaGreat
open Go.RowKit

/-- Where the bracket closes, with so many open ones. -/
def clo (s : ByteArray) (k o : Nat) : Nat :=
  if k < s.size then
    if (if byt s k = 40 then o + 1 else if byt s k = 41 then o - 1 else o) = 0 then k + 1 else clo s (k + 1) (if byt s k = 40 then o + 1 else if byt s k = 41 then o - 1 else o)
  else s.size
termination_by s.size - k
decreasing_by omega

theorem clo_in {s : ByteArray} {k o : Nat} (h : k < s.size) : clo s k o = if (if byt s k = 40 then o + 1 else if byt s k = 41 then o - 1 else o) = 0 then k + 1 else clo s (k + 1) (if byt s k = 40 then o + 1 else if byt s k = 41 then o - 1 else o) := by
  rw [clo, if_pos h]
theorem clo_out {s : ByteArray} {k o : Nat} (h : ¬ k < s.size) : clo s k o = s.size := by rw [clo, if_neg h]

/-- Where the term ends that begins at i. -/
def tEnd (s : ByteArray) (i : Nat) : Nat := if byt s (bl s (nmE s i)) = 40 then clo s (bl s (nmE s i)) 0 else nmE s i

theorem ofNm_eq (c : Nat) : ofNm c = isNm c := rfl

theorem made_parser (w : World) (bp : Value) (s : ByteArray) (i d : Nat) (hi : i ≤ s.size) (hs : s.size ≤ 400) :
    Lp (w.alloc (.cells #[bp, .string s, .int .i64 (i : Int), .int .u64 (d : Int)] 107)) w.heap.size bp s i d := by
  refine ⟨World.rowIs.congr (made_row w #[bp, .string s, .int .i64 (i : Int), .int .u64 (d : Int)] 107) ?_, hi, hs⟩
  intro j hj
  have hj' : j < 4 := hj
  rcases (by omega : j = 0 ∨ j = 1 ∨ j = 2 ∨ j = 3) with rfl | rfl | rfl | rfl <;> rfl


theorem Lp.fresh0 {w w' : World} {x : Nat} (K : Kept1 x w w') {w0 : World} (K0 : Kept0 w0 w) (hx : w0.heap.size ≤ x) : Kept0 w0 w' :=
  ⟨K.os.trans K0.os, K.tape.trans K0.tape, K.output.trans K0.output, Nat.le_trans K0.size K.size, fun k hk _ => (K.block k (Nat.lt_of_lt_of_le hk K0.size) (by omega)).trans (K0.block k hk (fun e => e))⟩

theorem bytes_at (w : World) (e : TypeId) (s : ByteArray) (b : Nat) (j : Nat) (hj : j < s.size - b) : (Lib.bytesWorld w e (s.extract b s.size)).cell? ⟨w.heap.size, j, none⟩ = some (.int .u8 (byt s (b + j) : Int)) := by
  have hz : (s.extract b s.size).size = s.size - b := by simp [ByteArray.size_extract]
  rw [Lib.bytesWorld_cell w e _ j (by omega)]
  have h1 : b + j < s.size := by omega
  have h2 : j < (s.extract b s.size).size := by omega
  have h3 : ((s.extract b s.size).data.toList.getD j 0) = s[b + j] := by
    rw [List.getD_eq_getElem?_getD, Array.getElem?_toList]
    have : (s.extract b s.size).data[j]? = some ((s.extract b s.size)[j]) := by
      rw [Array.getElem?_eq_getElem (by simpa using h2)]; rfl
    rw [this, ByteArray.getElem_extract]
    rfl
  rw [h3, byt_lt h1]
theorem bytes_kept {w0 w : World} (K : Kept0 w0 w) (e : TypeId) (S : ByteArray) : Kept0 w0 (Lib.bytesWorld w.drew e S) :=
  Kept.trans K ⟨rfl, rfl, rfl, by rw [Lib.bytesWorld_size]; exact Nat.le_succ _, fun k hk _ => Lib.bytesWorld_at_old w.drew e S k hk⟩

set_option maxRecDepth 100000 in
set_option maxHeartbeats 2000000 in
theorem termEnd_in (w : World) (r p : Nat) (s : ByteArray) (i d : Nat) (h : Lp w r (.pointer (some ⟨p, 0, none⟩)) s i d) :
    Calls Tryz.prog 256 #[.pointer (some ⟨r, 0, none⟩)] w fun e w' => e = .returned (.int .i64 (tEnd s i : Int)) ∧ Kept0 w w' := by
  have c0 := h.c0
  have c1 := h.c1
  have c2 := h.c2
  have c3 := h.c3
  have M := made_parser w (.pointer (some ⟨p, 0, none⟩)) s i d h.le h.small
  have K0 : Kept0 w (w.alloc (.cells #[.pointer (some ⟨p, 0, none⟩), .string s, .int .i64 (i : Int), .int .u64 (d : Int)] 107)) := Kept.alloc (Kept.refl _ w) _
  go_enter Tryz.func256, Tryz.ntmps256
  go_wp2_with fail
  generalize w.alloc (.cells #[.pointer (some ⟨p, 0, none⟩), .string s, .int .i64 (i : Int), .int .u64 (d : Int)] 107) = w1 at M K0 ⊢
  have hx : w.heap.size ≤ w.heap.size := Nat.le_refl _
  have CR : Hid (∀ W, Kept1 w.heap.size w1 W → W.cell? ⟨r, 1, none⟩ = some (.string s) ∧ Kept0 w W) := fun W K => ⟨(h.kept0 (Lp.fresh0 K K0 (Nat.le_refl _))).c1, Lp.fresh0 K K0 (Nat.le_refl _)⟩
  generalize hxx : w.heap.size = x at M hx CR ⊢
  go_loopw [] (fun W => ∃ k : Nat, Lp W x (.pointer (some ⟨p, 0, none⟩)) s k d ∧ Hid (nmE s k = nmE s i) ∧ Hid (Kept1 x w1 W)) (fun W => s.size - (match W.cell? ⟨x, 2, none⟩ with | some v => (intOf v).toNat | none => 0))
  case atStart => exact ⟨i, M, rfl, Kept.refl _ w1⟩
  case round =>
    obtain ⟨k, hR, hb, hK⟩ := hrel
    have NX := next_k wr x (.pointer (some ⟨p, 0, none⟩)) s k d hR
    have hle := hR.le
    have hsm := hR.small
    have c2r := hR.c2
    clear c0 c1 c2 c3
    cases hnm : ofNm (byt s k) with
    | true =>
      have hk1 : k < s.size := by
        refine Decidable.byContradiction fun hh => ?_
        simp [byt, hh, ofNm, isLet, isDig] at hnm
      have NM := fun W => ofName_any W (byt s k)
      rw [hnm] at NM
      have STP : Hid (∀ W, Kept0 wr W → Lp (W.setCell ⟨x, 2, none⟩ (.int .i64 ((k : Int) + 1))) x (.pointer (some ⟨p, 0, none⟩)) s (k + 1) d) := fun W K => by
        have := (hR.kept0 K).step (k := k + 1) (by omega)
        simpa using this
      have HC : Hid (∀ W, Kept0 wr W → W.cell? ⟨x, 2, none⟩ = some (.int .i64 (k : Int)) ∧ W.frozen? ⟨x, 2, none⟩ = false) := fun W K => ⟨(hR.kept0 K).c2, (hR.kept0 K).row.frozen 2⟩
      have hb2 : Hid (nmE s (k + 1) = nmE s i) := (nmE_at hk1 hnm).symm.trans hb
      have HC2 : Hid (wr.cell? ⟨x, 2, none⟩ = some (.int .i64 (k : Int))) := c2r
      clear hR hb c2r hnm
      generalize byt s k = bk at *
      go_wp2_with (first | (go_at_call 110; refine NX.mono ?_; rintro e w3 ⟨rfl, K3⟩; obtain ⟨c2, f2⟩ := HC.out w3 K3) | (go_at_call 259; refine (NM _).mono ?_; rintro e w4 ⟨rfl, rfl⟩))
      refine ⟨⟨k + 1, STP.out w3 K3, hb2, Kept1.set (hK.out.trans (Kept.mono K3 (fun _ _ e => e.elim))) _ _⟩, ?_⟩
      rw [(STP.out w3 K3).c2, HC2.out]
      simp only [intOf]
      omega
    | false =>
      have NM := fun W => ofName_any W (byt s k)
      rw [hnm] at NM
      have e : nmE s i = k := hb.symm.trans (nmE_end (fun hh => by rw [← ofNm_eq, hnm] at hh; cases hh.2))
      have HR : Hid (_ ∧ _) := And.intro hR hK.out
      have HE : Hid (nmE s i = k) := e
      have HB : Hid (∀ W, Kept0 wr W → Lp W x (.pointer (some ⟨p, 0, none⟩)) s k d) := fun W K => hR.kept0 K
      have HC : Hid (∀ W, Kept0 wr W → W.cell? ⟨x, 2, none⟩ = some (.int .i64 (k : Int))) := fun W K => (hR.kept0 K).c2
      clear hb hK c2r hnm e
      clear hR
      generalize byt s k = bk at *
      have NXT : Hid (∀ W, Lp W x (.pointer (some ⟨p, 0, none⟩)) s (bl s k) d → _) := fun W L => next_k W x _ s (bl s k) d L
      have hblk := bl_le hle
      have HT : Hid (tEnd s i = if byt s (bl s k) = 40 then clo s (bl s k) 0 else k) := by show tEnd s i = _; rw [tEnd, HE.out]
      by_cases h40 : byt s (bl s k) = 40
      · rw [h40] at NXT
        go_wp2_with (first | (go_at_call 110; refine NX2.mono ?_; rintro e w5 ⟨rfl, K5⟩; have c52 := (L4.kept0 K5).c2; have CR5 := (CR.out w5 ((HR.out.2.trans (Kept.mono K3 (fun _ _ e => e.elim))).trans (K4.trans (Kept.mono K5 (fun _ _ e => e.elim))))).1) | (go_at_call 110; refine NX.mono ?_; rintro e w3 ⟨rfl, K3⟩; have c2 := HC.out w3 K3; clear NX; have BL := gblanks_in w3 x _ s k d (HB.out w3 K3)) | (go_at_call 259; refine (NM _).mono ?_; rintro e w4 ⟨rfl, rfl⟩) | (go_at_call 67; refine BL.mono ?_; rintro e w4 ⟨rfl, L4, K4⟩; have NX2 := NXT.out w4 L4))
        have HW5 : Hid (Kept0 w w5) := (CR.out w5 ((HR.out.2.trans (Kept.mono K3 (fun _ _ e => e.elim))).trans (K4.trans (Kept.mono K5 (fun _ _ e => e.elim))))).2
        have hbk : ((bl s k : Nat) : Int) ≤ s.size := by omega
        have CV := Lib.run_convert_string_bytes (P := Tryz.prog) w5.drew 9 330 5 (s.extract (bl s k) s.size) Tryz.underlying9 Tryz.underlying330 Tryz.underlying5
        have hz := ext_size hblk (Nat.le_refl s.size)
        have hlx : x < w5.heap.size := (L4.kept0 K5).row.lt
        clear CR HR HB HC HE K3 K4 K5 L4 BL NX2 NM NXT M K0 hx
        generalize bl s k = b at *
        have CB : Hid (∀ j, j < s.size - b → (Lib.bytesWorld w5.drew 5 (s.extract b s.size)).cell? ⟨w5.heap.size, j, none⟩ = some (.int .u8 (byt s (b + j) : Int))) := bytes_at w5.drew 5 s b
        have KB : Hid (Kept0 w (Lib.bytesWorld w5.drew 5 (s.extract b s.size))) := bytes_kept HW5.out 5 (s.extract b s.size)
        have CX : Hid ((Lib.bytesWorld w5.drew 5 (s.extract b s.size)).cell? ⟨x, 2, none⟩ = some (.int .i64 (b : Int))) := (Lib.bytesWorld_old w5.drew 5 _ ⟨x, 2, none⟩ hlx).trans c52
        clear hlx
        go_region_with fail
        all_goals
          clear CV c52 CR5
          generalize Lib.bytesWorld w5.drew 5 (s.extract b s.size) = w6 at CB KB CX ⊢
          have HL6 : Hid (Lp w6 r (.pointer (some ⟨p, 0, none⟩)) s i d) := h.kept0 KB.out
          have HT2 : Hid (tEnd s i = clo s b 0) := by have := HT.out; rw [if_pos h40] at this; exact this
          have H40 : Hid (byt s b = 40) := h40
          clear HT h h40
          simp only [Act.put, List.getElem_toArray, List.getElem_cons_succ, List.getElem_cons_zero, List.setIfInBounds_toArray, List.set_cons_succ, List.set_cons_zero]
          go_wp2_with fail
          generalize hS : s.extract b s.size = S
          generalize grownCap w5.drew (s.size - b) 0 5 = cp
          generalize w5.heap.size = y at *
          clear hS hz
          go_loopw [5, 32] (fun t5 t32 W => ∃ (j o : Nat), t5 = .int .i64 (o : Int) ∧ t32 = .int .i64 (j : Int) ∧ j ≤ s.size - b ∧ o ≤ j ∧ Hid (clo s b 0 = clo s (b + j) o ∧ (j = 0 ∨ 1 ≤ o)) ∧ Hid (W = w6)) (fun _ t32 _ => s.size - b - (intOf t32).toNat)
          case atStart => exact ⟨0, 0, rfl, rfl, Nat.zero_le _, Nat.le_refl _, ⟨rfl, Or.inl rfl⟩, rfl⟩
          case round =>
            obtain ⟨j, o, rfl, rfl, hj, hoj, HJ, hw⟩ := hrel
            obtain rfl := hw.out
            clear hw
            by_cases hlt : j < s.size - b
            · have cb := CB.out j hlt
              have hlt' : ((j : Nat) : Int) < ((s.size - b : Nat) : Int) := by omega
              have hE := HJ.out.1
              rw [clo_in (o := o) (by omega : b + j < s.size)] at hE
              have ho1 := HJ.out.2
              by_cases e40 : byt s (b + j) = 40
              · rw [e40] at cb
                rw [if_pos e40, if_neg (by omega)] at hE
                have HE2 : Hid (clo s b 0 = clo s (b + (j + 1)) (o + 1)) := hE
                clear hE HJ e40 ho1
                have dno : ((o : Int) + 1 == 0) = false := by simp; omega
                have dno' : ¬ (o : Int) + 1 = 0 := by omega
                go_wp2_with fail
                go_roundw
                case rel => exact ⟨j + 1, o + 1, by simp, by simp, by omega, by omega, ⟨HE2.out, Or.inr (by omega)⟩, by first | exact rfl | exact trivial⟩
                case measure => simp only [intOf]; omega
              · rw [if_neg e40] at hE
                have hj0 : j ≠ 0 := fun e => e40 (by rw [e]; exact H40.out)
                have d40 : ((byt s (b + j) : Int) == 40) = false := by simp; omega
                by_cases e41 : byt s (b + j) = 41
                · rw [e41] at cb
                  rw [if_pos e41] at hE
                  clear d40
                  by_cases o1 : o = 1
                  · rw [if_pos (by omega)] at hE
                    have HE2 : Hid (clo s b 0 = b + j + 1) := hE
                    clear hE HJ e40 e41 ho1
                    subst o1
                    have cx := CX.out
                    go_wp2_with fail
                    go_ret
                    refine ⟨?_, KB.out⟩
                    rw [HT2.out, HE2.out]
                    simp
                  · rw [if_neg (by omega)] at hE
                    have HE2 : Hid (clo s b 0 = clo s (b + (j + 1)) (o - 1)) := hE
                    clear hE HJ e40 e41
                    have dno : ((o : Int) - 1 == 0) = false := by simp; omega
                    have dno' : ¬ (o : Int) - 1 = 0 := by omega
                    go_wp2_with fail
                    go_roundw
                    case rel => exact ⟨j + 1, o - 1, by simp; omega, by simp, by omega, by omega, ⟨HE2.out, Or.inr (by omega)⟩, by first | exact rfl | exact trivial⟩
                    case measure => simp only [intOf]; omega
                · rw [if_neg e41] at hE
                  rw [if_neg (by omega)] at hE
                  have d41 : ((byt s (b + j) : Int) == 41) = false := by simp; omega
                  have HE2 : Hid (clo s b 0 = clo s (b + (j + 1)) o) := hE
                  clear hE HJ e40 e41
                  have dno : ((o : Int) == 0) = false := by simp; omega
                  have dno' : ¬ (o : Int) = 0 := by omega
                  generalize byt s (b + j) = bj at *
                  go_wp2_with fail
                  go_roundw
                  case rel => exact ⟨j + 1, o, rfl, by simp, by omega, by omega, ⟨HE2.out, Or.inr (by omega)⟩, by first | exact rfl | exact trivial⟩
                  case measure => simp only [intOf]; omega
            · have hlt' : ¬ ((j : Nat) : Int) < ((s.size - b : Nat) : Int) := by omega
              have HE2 : Hid (clo s b 0 = s.size) := by
                have := HJ.out.1
                rw [clo_out (o := o) (by omega : ¬ b + j < s.size)] at this
                exact this
              have c1r := HL6.out.c1
              go_wp2_with fail
              go_ret
              refine ⟨?_, KB.out⟩
              rw [HT2.out, HE2.out]
              rfl
      · have dne : ((byt s (bl s k) : Int) != 40) = true := by simp; omega
        generalize byt s (bl s k) = bb at *
        go_wp2_with (first | (go_at_call 110; refine NX2.mono ?_; rintro e w5 ⟨rfl, K5⟩) | (go_at_call 110; refine NX.mono ?_; rintro e w3 ⟨rfl, K3⟩; have c2 := HC.out w3 K3; clear NX; have BL := gblanks_in w3 x _ s k d (HB.out w3 K3)) | (go_at_call 259; refine (NM _).mono ?_; rintro e w4 ⟨rfl, rfl⟩) | (go_at_call 67; refine BL.mono ?_; rintro e w4 ⟨rfl, L4, K4⟩; have NX2 := NXT.out w4 L4))
        go_ret
        refine ⟨?_, (CR.out w5 ((HR.out.2.trans (Kept.mono K3 (fun _ _ e => e.elim))).trans (K4.trans (Kept.mono K5 (fun _ _ e => e.elim))))).2⟩
        rw [HT.out, if_neg h40]
        rfl

end Go.Proofs.YtlehlgipbhfioaaGreat

namespace Go.Proofs.YtlehlgipbhfioaaGreat
open Go.RowKit Go.Maps

theorem add_in (w : World) (base p : Nat) (ev : Value) (nb fb : Nat) (l : List Tm) (h : Bk w base p ev nb fb l) (t : Tm) (ht : t.ok) (hlt : l.length < 1000) (hbase : base ≤ w.heap.size) :
    Calls Tryz.prog 105 #[.pointer (some ⟨p, 0, none⟩), entryV t] w fun e w' => e = .returned (.int .i64 (addN l t : Int)) ∧ ∃ ev', Bk w' base p ev' nb fb (addL l t) ∧ Kept (BFoot p ev nb fb) w w' ∧ (ev'.ownBlock = ev.ownBlock ∨ ∀ k, ev'.ownBlock = some k → w.heap.size ≤ k) := by
  cases hi : nix l t with
  | some i =>
    refine (add_old w base p ev nb fb l h t ht i hi).mono ?_
    rintro e w' ⟨rfl, H, K⟩
    exact ⟨by simp [addN, hi], ev, by simpa [addL, hi] using H, Kept.mono K (fun _ _ x => x.elim), Or.inl rfl⟩
  | none =>
    refine (add_new w base p ev nb fb l h t ht hi hlt hbase).mono ?_
    rintro e w' ⟨rfl, ev', H, K, L⟩
    exact ⟨by simp [addN, hi], ev', by simpa [addL, hi] using H, K, L⟩

theorem Tells.empty : Tells [] (.map []) (.map []) :=
  ⟨rfl, fun t _ => ⟨rfl, rfl⟩, rfl, fun n _ => ⟨rfl, rfl⟩, by simp, List.nodup_nil, by simp⟩

theorem made_bank (w : World) : Bk (((w.alloc (Obj.map #[] 0)).alloc (Obj.map #[] 0)).alloc (Obj.cells #[.slice none 0 0, .map (some w.heap.size), .map (some (w.heap.size + 1))] 84)) w.heap.size (w.heap.size + 1 + 1) (.slice none 0 0) w.heap.size (w.heap.size + 1) [] := by
  have h1 : (w.alloc (Obj.map #[] 0)).heap.size = w.heap.size + 1 := by simp
  have h2 : ((w.alloc (Obj.map #[] 0)).alloc (Obj.map #[] 0)).heap.size = w.heap.size + 1 + 1 := by simp
  have m1 := World.ownsMap_made (H := Unit) w Tryz.prog 152 (plainElem Tryz.prog 3)
  have m2 := World.ownsMap_made (H := Unit) (w.alloc (Obj.map #[] 0)) Tryz.prog 9 (plainElem Tryz.prog 3)
  have r := made_row ((w.alloc (Obj.map #[] 0)).alloc (Obj.map #[] 0)) #[.slice none 0 0, .map (some w.heap.size), .map (some (w.heap.size + 1))] 84
  rw [h1] at m2
  rw [h2] at r
  refine Bq.whole (Dn := .map []) (Df := .map []) ⟨World.rowIs.congr r ?_, World.ownsRow_nil _ _ _ _, mapIs_of ((m1.alloc _).alloc _), mapIs_of (m2.alloc _), by omega, by omega, by omega, by simp [Value.ownBlock], by simp [Value.ownBlock], by simp [Value.ownBlock], by omega, by omega, by omega⟩ Tells.empty
  intro i hi
  have hi' : i < 3 := hi
  rcases (by omega : i = 0 ∨ i = 1 ∨ i = 2) with rfl | rfl | rfl <;> rfl

set_option maxHeartbeats 400000 in
theorem tNew_any (w : World) :
    Calls Tryz.prog 12 #[] w fun e w' => ∃ p nb fb, e = .returned (.pointer (some ⟨p, 0, none⟩)) ∧ Bk w' w.heap.size p (.slice none 0 0) nb fb [] ∧ Below w.heap.size w w' := by
  have hmm := @run_makeMap Tryz.prog
  go_enter Tryz.func12, Tryz.ntmps12
  go_wp2_with fail
  go_ret
  refine ⟨_, _, _, rfl, made_bank w, ?_⟩
  exact Kept.below (((Kept.refl (fun _ => False) w).alloc _ |>.alloc _).alloc _) (Nat.le_refl _) (fun _ x => x.elim)

end Go.Proofs.YtlehlgipbhfioaaGreat

namespace Go.Proofs.YtlehlgipbhfioaaGreat
open Go.RowKit Go.Maps Go.ChangeShapes Go.WideShapes Go.MapKept Go.ChangeMaps Go.WideElems

theorem pRow : (34 : TypeId) < Tryz.prog.types.size := of_decide_eq_true (by kernel_rfl)
theorem pCells : Tryz.prog.cellsOf 34 = 2 := by kernel_rfl
theorem pKeyType : Tryz.prog.keyType 34 = true := by kernel_rfl
theorem pKeyAt : Tryz.prog.keyTypeAt 3 34 = true := by kernel_rfl
theorem pKl : WideMaps.KeyLaw Tryz.prog 34 := deep_law_laid tLaid (m := 3) (by omega) pRow pKeyAt (by rw [Tryz.underlying34])
theorem pLaw : Keyed Tryz.prog 34 := Keyed.of_law pKl

def P64 (p : Int × Int) : Prop := R64 p.1 ∧ R64 p.2
def pairV (p : Int × Int) : Value := .agg #[.int .i64 p.1, .int .i64 p.2]

theorem pair_formed (p : Int × Int) : (pairV p).formed Tryz.prog 34 = true := by simp [pairV, Value.formed, Tryz.underlying34, pCells]
theorem pair_key (p : Int × Int) (h : P64 p) : ∃ kl, keyOf Tryz.prog 34 (pairV p) = some kl := by
  have g0 : (Lit.int .i64 p.1).wf = true := WalkArith.wf_i64 h.1
  have g1 : (Lit.int .i64 p.2).wf = true := WalkArith.wf_i64 h.2
  unfold keyOf
  rw [Tryz.underlying34]
  simp only [pKeyType, pair_formed]
  obtain ⟨m, hm⟩ : ∃ m, Tryz.prog.types.size + 1 = m + 3 := ⟨Tryz.prog.types.size - 2, by have h9 := pRow; generalize Tryz.prog.types.size = z at h9 ⊢; exact (by have h8 : 3 ≤ z := Nat.le_trans (by decide) (Nat.le_of_lt h9); omega)⟩
  rw [hm]
  simp [Program.keyLits, Tryz.underlying34, Tryz.underlying3, pCells, tCellsI, pairV, Value.cells, g0, g1]

noncomputable def pkey (p : Int × Int) : Lit := (keyOf Tryz.prog 34 (pairV p)).getD (.bool false)
theorem pkey_of {p : Int × Int} (h : P64 p) : keyOf Tryz.prog 34 (pairV p) = some (pkey p) := by
  obtain ⟨kl, hk⟩ := pair_key p h
  simp [pkey, hk]
theorem pairV_inj {p q : Int × Int} (h : pairV p = pairV q) : p = q := by
  obtain ⟨a, b⟩ := p
  obtain ⟨c, d⟩ := q
  simp [pairV] at h
  rw [h.1, h.2]
theorem pkey_inj {p q : Int × Int} (hp : P64 p) (hq : P64 q) (h : pkey p = pkey q) : p = q :=
  pairV_inj (pLaw.inj (pkey_of hp) (by rw [h]; exact pkey_of hq))
theorem pkey_lit {p : Int × Int} (hp : P64 p) : ∃ k, pkey p = k ∧ WideAt.IsKeyLit k := by
  have h := pkey_of hp
  generalize pkey p = k at h
  exact ⟨k, rfl, pLaw.key h⟩

/-- The map at mb says how often each came in l. -/
def CntIs (W : World) (mb : Nat) (l : List (Int × Int)) : Prop :=
  ∃ D, mapIs W 34 mb D ∧ Maps.size D ≤ l.length ∧ ∀ p, P64 p → D.atKey (pkey p) (.lit (.int .i64 0)) = .lit (.int .i64 (l.count p : Int))

theorem CntIs.new (W : World) : CntIs (W.alloc (.map #[] 0)) W.heap.size [] := by
  refine ⟨_, mapIs_of (World.ownsMap_made W Tryz.prog 34 (plainElem Tryz.prog 3)), ?_, fun p hp => ?_⟩
  · exact Nat.le_refl _
  · rfl
theorem CntIs.keep {W W' : World} {mb : Nat} {l : List (Int × Int)} (h : CntIs W mb l) (hb : W'.heap[mb]? = W.heap[mb]?) : CntIs W' mb l := by
  obtain ⟨D, h1, h2, h3⟩ := h
  obtain ⟨es, clock, e1, e2, e3, e4⟩ := h1
  exact ⟨D, ⟨es, clock, hb.trans e1, e2, e3, e4⟩, h2, h3⟩
theorem CntIs.lt {W : World} {mb : Nat} {l : List (Int × Int)} (h : CntIs W mb l) : ∃ es clock, W.heap[mb]? = some (Obj.map es clock) := by
  obtain ⟨D, ⟨es, clock, e1, _⟩, _⟩ := h
  exact ⟨es, clock, e1⟩

/-- 'counts[p]'. -/
theorem CntIs.look {W : World} {mb : Nat} {l : List (Int × Int)} (h : CntIs W mb l) {p : Int × Int} (hp : P64 p) :
    (Instr.lookup 113 (.map (some mb)) (pairV p) false).run Tryz.prog W = .ok (.int .i64 (l.count p : Int)) W := by
  obtain ⟨D, h1, h2, h3⟩ := h
  obtain ⟨c, hrun, hat, _⟩ := World.ownsMap.lookup_int h1 pLaw Tryz.underlying113 Tryz.underlying3 (zeroI W) (pkey_of hp)
  rw [h3 p hp] at hat
  simp at hat
  rw [hrun, hat]

theorem setBlock_self {w : World} {b : Nat} {o : Obj} (hb : w.heap[b]? = some o) : setBlock w b o = w := by
  have e : w.heap.setIfInBounds b o = w.heap := by
    apply Array.ext_getElem?
    intro i
    rw [Array.getElem?_setIfInBounds]
    split
    · rename_i h
      subst h
      rw [hb, if_pos (Array.getElem?_eq_some_iff.1 hb).1]
    · rfl
  unfold setBlock
  rw [e]
theorem key_unique {l : List MapEntry} (h : (l.map (fun x => x.key)).Nodup) {x y : MapEntry} (hx : x ∈ l) (hy : y ∈ l) (e : x.key = y.key) : x = y := by
  induction l with
  | nil => simp at hx
  | cons a r ih =>
    rw [List.map_cons, List.nodup_cons] at h
    rcases List.mem_cons.1 hx with ex | ex <;> rcases List.mem_cons.1 hy with ey | ey
    · rw [ex, ey]
    · exact absurd (List.mem_map.2 ⟨y, ey, by rw [← e, ex]⟩) h.1
    · exact absurd (List.mem_map.2 ⟨x, ex, by rw [e, ey]⟩) h.1
    · exact ih h.2 ex ey

/-- Behind the making of an entry one finds what it holds. -/
theorem entry_look {H : Type} {P : Program} {w Wa : World} {t k e : TypeId} {R : Value → Option (DataW H × List MemPlace)} {b : Nat} {es : Array MapEntry} {clock : Nat} (K : WideMaps.KeyLaw P k) (ht : P.underlying t = some (.map k e)) {z : Value} (hz : ∀ u : World, (zeroValue e).run P u = .ok z u) (hb : w.heap[b]? = some (.map es clock)) (F : Fit P k R es clock)
    {key : Value} {kl : Lit} (hkey : keyOf P k key = some kl) {v0 st : Value} (hrun : (Instr.mapEntry t (.map (some b)) key).run P w = .ok (.tuple #[v0, st]) Wa) : (Instr.lookup t (.map (some b)) key false).run P Wa = .ok v0 Wa := by
  rcases K.find w hkey es.toList F.keys with ⟨h1, h2⟩ | ⟨j, e0, h1, h2, h3⟩
  · have hr : (Instr.mapEntry t (.map (some b)) key).run P w = .ok (.tuple #[z, goInt clock]) (setBlock w b (.map (es.push ⟨key, z, clock⟩) (clock + 1))) := by
      simp [Instr.mapEntry, run_underlying ht, MapKept.run_getObj_map hb, K.check w false hkey, h1, hz, MapKept.run_setObj_map _ hb, Result.andThen, setBlock]
    rw [hrun] at hr
    simp only [Result.ok.injEq, Value.tuple.injEq, Array.mk.injEq, List.cons.injEq] at hr
    obtain ⟨⟨rfl, _⟩, rfl⟩ := hr
    have hb' := heap_setBlock_same (w := w) hb (.map (es.push ⟨key, v0, clock⟩) (clock + 1))
    rcases K.find (setBlock w b (.map (es.push ⟨key, v0, clock⟩) (clock + 1))) hkey (es.push ⟨key, v0, clock⟩).toList (by
      intro x hx
      simp only [Array.toList_push, List.mem_append, List.mem_singleton] at hx
      rcases hx with hx | rfl
      · exact F.keys x hx
      · exact ⟨kl, hkey⟩) with ⟨g1, g2⟩ | ⟨j, e1, g1, g2, g3⟩
    · exact absurd rfl (g2 ⟨key, v0, clock⟩ (by simp))
    · have hm := List.mem_of_getElem? g2
      simp only [Array.toList_push, List.mem_append, List.mem_singleton] at hm
      have hv : e1.val = v0 := by
        rcases hm with hm | rfl
        · exact absurd g3 (h2 e1 hm)
        · rfl
      rw [hv] at g1
      simp [Instr.lookup, run_underlying ht, MapKept.run_getObj_map hb', K.check _ _ hkey, Result.andThen]
      simp at g1
      rw [g1]
      rfl
  · have hj : es[j]? = some e0 := by simpa using h2
    have hsame : es.modify j (fun e => { e with key := key }) = es := by
      apply Array.ext'
      rw [Array.toList_modify, modify_eq_set _ _ _ _ h2]
      have : ({ e0 with key := key } : MapEntry) = e0 := by rw [← h3]
      rw [this]
      exact set_self _ _ _ h2
    have hr : (Instr.mapEntry t (.map (some b)) key).run P w = .ok (.tuple #[e0.val, goInt e0.born]) (setBlock w b (.map es clock)) := by
      simp [Instr.mapEntry, run_underlying ht, MapKept.run_getObj_map hb, K.check w false hkey, h1, hj, h3, K.stays w hkey, hsame, MapKept.run_setObj_map _ hb, Result.andThen, setBlock]
    rw [hrun] at hr
    simp only [Result.ok.injEq, Value.tuple.injEq, Array.mk.injEq, List.cons.injEq] at hr
    obtain ⟨⟨rfl, _⟩, rfl⟩ := hr
    rw [setBlock_self hb]
    simp [Instr.lookup, run_underlying ht, MapKept.run_getObj_map hb, K.check _ _ hkey, h1, Result.andThen]

/-- 'counts[p]++': the entry, and what is stored there. -/
theorem CntIs.inc {W : World} {mb : Nat} {l : List (Int × Int)} (h : CntIs W mb l) {p : Int × Int} (hp : P64 p) (hl : l.length < 140737488355328) :
    ∃ (v0 : Value) (st : Nat) (W1 W2 : World), (Instr.mapEntry 113 (.map (some mb)) (pairV p)).run Tryz.prog W = .ok (.tuple #[v0, goInt st]) W1 ∧
      (Instr.entryStore 113 (.map (some mb)) (goInt st) (.int .i64 ((l.count p + 1 : Nat) : Int))).run Tryz.prog W1 = .ok () W2 ∧ CntIs W2 mb (l ++ [p]) ∧ Kept1 mb W W2 ∧ (Instr.lookup 113 (.map (some mb)) (pairV p) false).run Tryz.prog W1 = .ok (.int .i64 (l.count p : Int)) W1 := by
  have hlk := h.look hp
  obtain ⟨D, h1, h2, h3⟩ := h
  have hc : l.count p ≤ l.length := List.count_le_length
  obtain ⟨w', hr, ho, hturn⟩ := World.ownsMap.store h1 pLaw Tryz.underlying113 (by unfold maxLen; omega) (pkey_of hp) (plainElem_int (H := Unit) Tryz.underlying3 (WalkArith.wf_i64 (n := ((l.count p + 1 : Nat) : Int)) (by omega)))
  have tidy := World.ownsMap.tidy h1 pLaw
  obtain ⟨es, clock, hb, F, _, _⟩ := h1
  obtain ⟨v0, st, es1, clock1, hrun, hv0, hst⟩ := entry_then_store pKl Tryz.underlying113 zeroI hb F (pkey_of hp)
  obtain ⟨es', clock', hs1, hs2⟩ := hst (setBlock W mb (.map es1 clock1)) (.int .i64 ((l.count p + 1 : Nat) : Int)) (heap_setBlock_same hb _)
  have e : setBlock (setBlock W mb (.map es1 clock1)) mb (.map es' clock') = w' := by
    rw [hr] at hs2
    simp only [Result.ok.injEq, true_and] at hs2
    rw [hs2]
    simp [setBlock]
  refine ⟨v0, st, _, w', hrun, by rw [hs1, e], ⟨_, mapIs_of ho, ?_, fun q hq => ?_⟩, Kept1.of_grown hturn.grown, ?_⟩
  · rw [size_put tidy]
    simp only [List.length_append, List.length_singleton]
    split <;> omega
  · by_cases e : q = p
    · subst e
      obtain ⟨kk, e, hk⟩ := pkey_lit hq
      rw [e, atKey_put_same tidy.isMap hk, List.count_append]
      simp
    · rw [atKey_put_other (fun x => e (pkey_inj hq hp x)), h3 q hq, List.count_append]
      have : List.count q [p] = 0 := List.count_eq_zero.2 (by simpa using e)
      rw [this]
      simp
  · have hl2 := entry_look pKl Tryz.underlying113 zeroI hb F (pkey_of hp) hrun
    rw [hl2]
    have : v0 = .int .i64 (l.count p : Int) := by
      rcases Maps.fit_look false pLaw Tryz.underlying113 (zeroI W) hb F (pkey_of hp) with ⟨g1, g2, _⟩ | ⟨e0, y, g0, g1, g2, _⟩
      · rw [g1] at hlk
        simp only [Bool.false_eq_true, if_false, Result.ok.injEq, and_true] at hlk
        rcases hv0 with ⟨e1, m1, m2, m3⟩ | ⟨m1, m2⟩
        · exact absurd m2 (g2 e1 m1)
        · rw [m2, hlk]
      · rw [g2] at hlk
        simp only [Bool.false_eq_true, if_false, Result.ok.injEq, and_true] at hlk
        rcases hv0 with ⟨e1, m1, m2, m3⟩ | ⟨m1, m2⟩
        · obtain ⟨s1, s2, s3⟩ := F.stamped
          have : e1 = e0 := key_unique s3 m1 g0 (m2.trans g1.symm)
          rw [m3, this, hlk]
        · exact absurd g1 (m1 e0 g0)
    rw [this]

end Go.Proofs.YtlehlgipbhfioaaGreat

namespace Go.Proofs.YtlehlgipbhfioaaGreat
open Go.RowKit Go.Maps

/-- Number i stands yet, when j terms behind the first s have been taken out. -/
def standsB (s j i : Nat) : Bool := decide (i < s ∨ s + j ≤ i)

structure Out (l r : List Tm) (j : Nat) (Dn Df : DataW Unit) : Prop where
  nsize : Maps.size Dn + j = (l ++ r).length
  nsays : ∀ t : Tm, t.ok → Says Dn (ekey t) ((nix (l ++ r) t).filter (standsB l.length j))
  fsize : Maps.size Df = ((List.range (l ++ r).length).filter (fun i => isF (l ++ r) i && standsB l.length j i)).length
  fsays : ∀ n : ByteArray, n.size ≤ 6 → Says Df (skey n) ((fst (l ++ r) n).filter (standsB l.length j))

theorem stands0 (s i : Nat) : standsB s 0 i = true := by unfold standsB; exact decide_eq_true (by omega)
theorem filter_all {α : Type} (p : α → Bool) (h : ∀ x, p x = true) (o : Option α) : o.filter p = o := by cases o <;> simp [Option.filter, h]

theorem Out.start {l r : List Tm} {Dn Df : DataW Unit} (T : Tells (l ++ r) Dn Df) : Out l r 0 Dn Df := by
  refine ⟨T.nsize, fun t ht => ?_, ?_, fun n hn => ?_⟩
  · rw [filter_all _ (stands0 _)]; exact T.nsays t ht
  · rw [T.fsize]
    unfold cntF
    congr 1
    exact List.filter_congr (fun i _ => by rw [stands0]; simp)
  · rw [filter_all _ (stands0 _)]; exact T.fsays n hn

theorem nix_some {l : List Tm} {t : Tm} {i : Nat} (h : nix l t = some i) : l[i]? = some t := by
  obtain ⟨hi, hp, _⟩ := List.findIdx?_eq_some_iff_getElem.1 h
  rw [List.getElem?_eq_getElem hi, of_decide_eq_true hp]

theorem nix_at {l : List Tm} (hd : l.Nodup) {i : Nat} {t : Tm} (h : l[i]? = some t) : nix l t = some i := by
  obtain ⟨hi, e⟩ := List.getElem?_eq_some_iff.1 h
  cases hx : nix l t with
  | none => exact absurd (e ▸ List.getElem_mem hi) (nix_none hx)
  | some k =>
    obtain ⟨hk, ek⟩ := List.getElem?_eq_some_iff.1 (nix_some hx)
    have := (List.getElem_inj hd (h₀ := hk) (h₁ := hi)).1 (ek.trans e.symm)
    rw [this]

theorem stands_step {s j i : Nat} (h : i ≠ s + j) : standsB s (j + 1) i = standsB s j i := by
  unfold standsB
  exact decide_eq_decide.2 (by omega)
theorem stands_gone (s j : Nat) : standsB s (j + 1) (s + j) = false := decide_eq_false (by omega)
theorem stands_here (s j : Nat) : standsB s j (s + j) = true := decide_eq_true (by omega)

theorem filter_step {o : Option Nat} {s j : Nat} (h : o ≠ some (s + j)) : o.filter (standsB s (j + 1)) = o.filter (standsB s j) := by
  cases o with
  | none => rfl
  | some i =>
    have hi : i ≠ s + j := fun e => h (by rw [e])
    simp [Option.filter, stands_step hi]

/-- One term of the map of numbers. -/
theorem Out.nstep {l r : List Tm} {j : Nat} {Dn Df : DataW Unit} (O : Out l r j Dn Df) (hd : (l ++ r).Nodup) {e : Tm} (he : r[j]? = some e) (ho : e.ok) (hD : Tidy Dn) :
    Maps.size (Dn.del (ekey e)) + (j + 1) = (l ++ r).length ∧ ∀ t : Tm, t.ok → Says (Dn.del (ekey e)) (ekey t) ((nix (l ++ r) t).filter (standsB l.length (j + 1))) := by
  have ha : (l ++ r)[l.length + j]? = some e := by rw [List.getElem?_append_right (by omega)]; simpa using he
  have hn := nix_at hd ha
  constructor
  · have h1 := size_del (k := ekey e) hD
    have h2 := (O.nsays e ho).1
    rw [hn] at h2
    simp [Option.filter, stands_here] at h2
    rw [h2] at h1
    have := O.nsize
    simp at h1
    omega
  · intro t ht
    by_cases h : t = e
    · subst h
      rw [hn]
      simp only [Option.filter, stands_gone]
      exact Says.del_same
    · have hne : nix (l ++ r) t ≠ some (l.length + j) := fun x => by
        have := nix_some x
        rw [ha] at this
        exact h (Option.some.inj this).symm
      rw [filter_step hne]
      exact (O.nsays t ht).del_other (fun x => h (ekey_inj ht ho x))

theorem filter_count {n : Nat} {p q : Nat → Bool} {k : Nat} (hk : k < n) (hp : p k = true) (hq : q k = false) (h : ∀ i, i ≠ k → q i = p i) : ((List.range n).filter q).length + 1 = ((List.range n).filter p).length := by
  induction n with
  | zero => omega
  | succ n ih =>
    rw [List.range_succ, List.filter_append, List.filter_append, List.length_append, List.length_append]
    by_cases e : k = n
    · subst e
      have e1 : (List.range k).filter q = (List.range k).filter p := List.filter_congr (fun i hi => h i (by have := List.mem_range.1 hi; omega))
      simp [e1, hp, hq]
    · have := ih (by omega)
      have hn : q n = p n := h n (fun x => e x.symm)
      simp only [List.filter_cons, hn, List.filter_nil]
      omega

theorem fst_at {l : List Tm} {n : ByteArray} {i : Nat} (h : fst l n = some i) {t : Tm} (ht : l[i]? = some t) : t.name = n := by
  obtain ⟨u, hu, hn⟩ := fst_some h
  rw [ht] at hu
  rw [Option.some.inj hu]
  exact hn

/-- The term's name had its first number here: it goes. -/
theorem Out.fgone {l r : List Tm} {j : Nat} {Dn Df : DataW Unit} (O : Out l r j Dn Df) {e : Tm} (he : r[j]? = some e) (ho : e.ok) (hf : fst (l ++ r) e.name = some (l.length + j)) (hD : Tidy Df) :
    Maps.size (Df.del (skey e.name)) = ((List.range (l ++ r).length).filter (fun i => isF (l ++ r) i && standsB l.length (j + 1) i)).length ∧
      ∀ n : ByteArray, n.size ≤ 6 → Says (Df.del (skey e.name)) (skey n) ((fst (l ++ r) n).filter (standsB l.length (j + 1))) := by
  have ha : (l ++ r)[l.length + j]? = some e := by rw [List.getElem?_append_right (by omega)]; simpa using he
  have hlt : l.length + j < (l ++ r).length := (List.getElem?_eq_some_iff.1 ha).1
  constructor
  · have h1 := size_del (k := skey e.name) hD
    have h2 := (O.fsays e.name ho.name).1
    rw [hf] at h2
    simp [Option.filter, stands_here] at h2
    rw [h2] at h1
    have h3 := O.fsize
    have h4 : isF (l ++ r) (l.length + j) = true := by unfold isF; rw [ha]; exact decide_eq_true hf
    have h5 := filter_count (p := fun i => isF (l ++ r) i && standsB l.length j i) (q := fun i => isF (l ++ r) i && standsB l.length (j + 1) i) hlt (by simp [h4, stands_here]) (by simp [stands_gone]) (fun i hi => by simp only [stands_step hi])
    simp only [if_true] at h1
    omega
  · intro n hn
    by_cases h : n = e.name
    · subst h
      rw [hf]
      simp only [Option.filter, stands_gone]
      exact Says.del_same
    · have hne : fst (l ++ r) n ≠ some (l.length + j) := fun x => h (fst_at x ha).symm
      rw [filter_step hne]
      exact (O.fsays n hn).del_other (fun x => h (skey_inj x))

/-- It had not: nothing goes. -/
theorem Out.fstays {l r : List Tm} {j : Nat} {Dn Df : DataW Unit} (O : Out l r j Dn Df) {e : Tm} (he : r[j]? = some e) (hf : fst (l ++ r) e.name ≠ some (l.length + j)) :
    Maps.size Df = ((List.range (l ++ r).length).filter (fun i => isF (l ++ r) i && standsB l.length (j + 1) i)).length ∧
      ∀ n : ByteArray, n.size ≤ 6 → Says Df (skey n) ((fst (l ++ r) n).filter (standsB l.length (j + 1))) := by
  have ha : (l ++ r)[l.length + j]? = some e := by rw [List.getElem?_append_right (by omega)]; simpa using he
  constructor
  · rw [O.fsize]
    congr 1
    apply List.filter_congr
    intro i _
    by_cases h : i = l.length + j
    · subst h
      have : isF (l ++ r) (l.length + j) = false := by unfold isF; rw [ha]; exact decide_eq_false hf
      simp [this]
    · rw [stands_step h]
  · intro n hn
    have hne : fst (l ++ r) n ≠ some (l.length + j) := fun x => hf (by rw [fst_at x ha]; exact x)
    rw [filter_step hne]
    exact O.fsays n hn

/-- What a look at the name says: whether the number is its first. -/
theorem look_first {l r : List Tm} {j : Nat} {e : Tm} (he : r[j]? = some e) :
    (((fst (l ++ r) e.name).filter (standsB l.length j)).getD 0 = l.length + j) ↔ fst (l ++ r) e.name = some (l.length + j) := by
  have ha : (l ++ r)[l.length + j]? = some e := by rw [List.getElem?_append_right (by omega)]; simpa using he
  obtain ⟨i, hi⟩ := fst_mem (List.mem_of_getElem? ha)
  rw [hi]
  by_cases h : standsB l.length j i = true
  · simp [Option.filter, h]
  · have h' : standsB l.length j i = false := by simpa using h
    simp only [Option.filter, h']
    have h2 := of_decide_eq_false h'
    simp
    omega

theorem nix_app (l r : List Tm) (t : Tm) : (nix (l ++ r) t).filter (standsB l.length r.length) = nix l t := by
  unfold nix
  rw [List.findIdx?_append]
  cases h : List.findIdx? (fun x => decide (x = t)) l with
  | some i =>
    have hi : i < l.length := (List.findIdx?_eq_some_iff_getElem.1 h).1
    have : standsB l.length r.length i = true := decide_eq_true (by omega)
    simp [Option.filter, this]
  | none =>
    cases h2 : List.findIdx? (fun x => decide (x = t)) r with
    | none => rfl
    | some k =>
      have hk : k < r.length := (List.findIdx?_eq_some_iff_getElem.1 h2).1
      have : standsB l.length r.length (k + l.length) = false := decide_eq_false (by omega)
      simp [Option.filter, this]

theorem fst_app (l r : List Tm) (n : ByteArray) : (fst (l ++ r) n).filter (standsB l.length r.length) = fst l n := by
  unfold fst
  rw [List.findIdx?_append]
  cases h : List.findIdx? (fun x => decide (x.name = n)) l with
  | some i =>
    have hi : i < l.length := (List.findIdx?_eq_some_iff_getElem.1 h).1
    have : standsB l.length r.length i = true := decide_eq_true (by omega)
    simp [Option.filter, this]
  | none =>
    cases h2 : List.findIdx? (fun x => decide (x.name = n)) r with
    | none => rfl
    | some k =>
      have hk : k < r.length := (List.findIdx?_eq_some_iff_getElem.1 h2).1
      have : standsB l.length r.length (k + l.length) = false := decide_eq_false (by omega)
      simp [Option.filter, this]

theorem isF_app (l r : List Tm) {i : Nat} (hi : i < l.length) : isF (l ++ r) i = isF l i := by
  unfold isF
  rw [List.getElem?_append_left hi, List.getElem?_eq_getElem hi]
  obtain ⟨k, hk⟩ := fst_mem (List.getElem_mem hi)
  have e : fst (l ++ r) l[i].name = fst l l[i].name := by
    rw [hk]
    unfold fst at hk ⊢
    rw [List.findIdx?_append, hk]
    rfl
  simp only [e]

theorem count_app (l r : List Tm) : ((List.range (l ++ r).length).filter (fun i => isF (l ++ r) i && standsB l.length r.length i)).length = cntF l := by
  unfold cntF
  rw [List.length_append, List.range_add, List.filter_append, List.length_append]
  have e1 : (List.range l.length).filter (fun i => isF (l ++ r) i && standsB l.length r.length i) = (List.range l.length).filter (isF l) := List.filter_congr (fun i hi => by
    have h := List.mem_range.1 hi
    have : standsB l.length r.length i = true := decide_eq_true (by omega)
    rw [isF_app l r h, this]; simp)
  have e2 : ((List.range r.length).map (fun x => l.length + x)).filter (fun i => isF (l ++ r) i && standsB l.length r.length i) = [] := List.filter_eq_nil_iff.2 (fun i hi => by
    obtain ⟨k, hk, rfl⟩ := List.mem_map.1 hi
    have h := List.mem_range.1 hk
    have : standsB l.length r.length (l.length + k) = false := decide_eq_false (by omega)
    simp [this])
  rw [e1, e2]
  simp

/-- All of r is taken out: what is left says l. -/
theorem Out.done {l r : List Tm} {Dn Df : DataW Unit} (O : Out l r r.length Dn Df) (ho : ∀ t ∈ l, t.ok) (hd : l.Nodup) (hs : l.length ≤ 1000) : Tells l Dn Df := by
  refine ⟨?_, fun t ht => ?_, ?_, fun n hn => ?_, ho, hd, hs⟩
  · have := O.nsize
    simp at this
    omega
  · rw [← nix_app l r]; exact O.nsays t ht
  · rw [O.fsize]; exact count_app l r
  · rw [← fst_app l r]; exact O.fsays n hn

end Go.Proofs.YtlehlgipbhfioaaGreat

namespace Go.Proofs.YtlehlgipbhfioaaGreat
open Go.RowKit Go.Maps

theorem gRow : (98 : TypeId) < Tryz.prog.types.size := of_decide_eq_true (by kernel_rfl)
theorem gCells : Tryz.prog.cellsOf 98 = 5 := by kernel_rfl
theorem gKeyType : Tryz.prog.keyType 98 = true := by kernel_rfl
theorem gKeyAt : Tryz.prog.keyTypeAt 3 98 = true := by kernel_rfl
theorem gLaw : Keyed Tryz.prog 98 := Keyed.of_law (deep_law_laid tLaid (m := 3) (by omega) gRow gKeyAt (by rw [Tryz.underlying98]))

/-- A signature, as the program keeps it. -/
def sigL (s : Tm) : List Value := [.string s.name, .int .i64 (s.arg 0 : Int), .int .i64 (s.arg 1 : Int), .int .i64 (s.arg 2 : Int), .int .i64 (s.arg 3 : Int)]
def sigV (s : Tm) : Value := .agg (sigL s).toArray

theorem sig_formed (t : Tm) : (sigV t).formed Tryz.prog 98 = true := by simp [sigV, sigL, Value.formed, Tryz.underlying98, gCells]

theorem sig_key (t : Tm) (h : t.ok) : ∃ kl, keyOf Tryz.prog 98 (sigV t) = some kl := by
  have h0 : t.name.size ≤ maxLen := Nat.le_trans h.name (by decide)
  have g0 : (Lit.int .i64 (t.arg 0 : Int)).wf = true := wf64 (by have := h.arg 0; omega)
  have g1 : (Lit.int .i64 (t.arg 1 : Int)).wf = true := wf64 (by have := h.arg 1; omega)
  have g2 : (Lit.int .i64 (t.arg 2 : Int)).wf = true := wf64 (by have := h.arg 2; omega)
  have g3 : (Lit.int .i64 (t.arg 3 : Int)).wf = true := wf64 (by have := h.arg 3; omega)
  unfold keyOf
  rw [Tryz.underlying98]
  simp only [gKeyType, sig_formed]
  obtain ⟨m, hm⟩ : ∃ m, Tryz.prog.types.size + 1 = m + 3 := ⟨Tryz.prog.types.size - 2, by have h9 := gRow; generalize Tryz.prog.types.size = z at h9 ⊢; exact (by have h8 : 3 ≤ z := Nat.le_trans (by decide) (Nat.le_of_lt h9); omega)⟩
  rw [hm]
  have hr : List.range 4 = [0, 1, 2, 3] := rfl
  simp [Program.keyLits, Tryz.underlying98, Tryz.underlying96, Tryz.underlying3, Tryz.underlying9, gCells, tCells4, tCellsI, tCellsS, sigV, sigL, Value.cells, hr, h0, g0, g1, g2, g3]

noncomputable def gkey (t : Tm) : Lit := (keyOf Tryz.prog 98 (sigV t)).getD (.bool false)
theorem gkey_of {t : Tm} (h : t.ok) : keyOf Tryz.prog 98 (sigV t) = some (gkey t) := by
  obtain ⟨kl, hk⟩ := sig_key t h
  simp [gkey, hk]
/-- A signature that may be asked for. -/
structure Sk (s : Tm) : Prop where
  ok : s.ok
  four : s.args.length = 4
theorem sigV_inj {t u : Tm} (ht : Sk t) (hu : Sk u) (h : sigV t = sigV u) : t = u := by
  have h4 := ht.four
  have k4 := hu.four
  have hok := ht.ok
  clear ht hu
  obtain ⟨n, a⟩ := t
  obtain ⟨m, b⟩ := u
  simp [sigV, sigL, Tm.arg] at h
  obtain ⟨h0, h2, h3, h4', h5⟩ := h
  have hl : a.length = b.length := by simp at h4 k4; omega
  have : a = b := args_ext hl hok.args (fun i hi => by
    rcases (by omega : i = 0 ∨ i = 1 ∨ i = 2 ∨ i = 3) with rfl | rfl | rfl | rfl <;> simp only [List.getD_eq_getElem?_getD] <;> omega)
  rw [h0, this]
theorem gkey_inj {t u : Tm} (ht : Sk t) (hu : Sk u) (h : gkey t = gkey u) : t = u :=
  sigV_inj ht hu (gLaw.inj (gkey_of ht.ok) (by rw [h]; exact gkey_of hu.ok))
theorem gkey_lit {t : Tm} (ht : t.ok) : ∃ k, gkey t = k ∧ WideAt.IsKeyLit k := by
  have h := gkey_of ht
  generalize gkey t = k at h
  exact ⟨k, rfl, gLaw.key h⟩

theorem sg_sk {l : List Tm} (hb : Cc.Bd l) {lo : Nat → Nat} (hle : ∀ i, i < l.length → lo i ≤ i) (hl : l.length ≤ 1000) {n : Nat} {t : Tm} (ht : l[n]? = some t) (hok : t.ok) : Sk (Cc.sg lo t) := by
  have ha : ∀ k, Cc.ar lo t k < 1000 := by
    intro k
    unfold Cc.ar
    cases e : t.args[k]? with
    | none => simp
    | some a =>
      have h1 := hb.args n t ht a (List.mem_of_getElem? e)
      have h2 := hle a h1
      show lo a < 1000
      omega
  refine ⟨⟨hok.name, by simp [Cc.sg], ?_⟩, rfl⟩
  intro a hm
  simp [Cc.sg] at hm
  rcases hm with rfl | rfl | rfl | rfl <;> exact ha _

/-- Blocks that never change. -/
def Sat (st : List (Nat × Obj)) (w : World) : Prop := ∀ x ∈ st, w.heap[x.1]? = some x.2
/-- A slice of numbers in them. -/
def UseIs (st : List (Nat × Obj)) (v : Value) (xs : List Nat) : Prop :=
  ∃ a cap, v = .slice a xs.length cap ∧ xs.length ≤ cap ∧ (xs = [] ∨ ∃ (b off : Nat) (c : Array Value) (fz : Nat × Nat), a = some ⟨b, off, none⟩ ∧ (b, Obj.cells c 3 fz) ∈ st ∧ ∀ j x : Nat, xs[j]? = some x → c[off + j]? = some (Value.int .i64 (x : Int)))
theorem UseIs.mono {st st' : List (Nat × Obj)} {v : Value} {xs : List Nat} (h : UseIs st v xs) (hs : ∀ x ∈ st, x ∈ st') : UseIs st' v xs := by
  obtain ⟨a, cap, e, hc, h⟩ := h
  refine ⟨a, cap, e, hc, h.imp id ?_⟩
  rintro ⟨b, off, c, fz, e1, e2, e3⟩
  exact ⟨b, off, c, fz, e1, hs _ e2, e3⟩
theorem UseIs.cell {st : List (Nat × Obj)} {v : Value} {xs : List Nat} (h : UseIs st v xs) {w : World} (hw : Sat st w) {j x : Nat} (hj : xs[j]? = some x) :
    ∃ b off cap, v = .slice (some ⟨b, off, none⟩) xs.length cap ∧ xs.length ≤ cap ∧ ∀ i y : Nat, xs[i]? = some y → w.cell? ⟨b, off + i, none⟩ = some (.int .i64 (y : Int)) := by
  obtain ⟨a, cap, e, hcap, h⟩ := h
  rcases h with rfl | ⟨b, off, c, fz, e1, e2, e3⟩
  · simp at hj
  · refine ⟨b, off, cap, by rw [e, e1], hcap, fun i y hi => ?_⟩
    have := hw _ e2
    simp only [World.cell?, this]
    exact e3 i y hi
theorem UseIs.form {st : List (Nat × Obj)} {v : Value} {xs : List Nat} (h : UseIs st v xs) : ∃ a cap, v = .slice a xs.length cap := by
  obtain ⟨a, cap, e, _, _⟩ := h
  exact ⟨a, cap, e⟩

/-- All of the classes. -/
structure Zs where
  pk : Nat
  ps : Nat
  nb : Nat
  tb : Nat
  ub : Nat
  mb : Nat
  jv : Value
  bv : Value
  av : Nat → Value
  uv : Nat → Value
  g : Uf.G
  t : List Uf.Rec
  bs : List Value
  st : List (Nat × Obj)
  us : Nat → List Nat
  kn : Tm → Option Nat
  ms : Nat

def Zs.Foot (z : Zs) (k : Nat) : Prop := k = z.pk ∨ Go.Proofs.YtlehlgipbhfioaaGreat.Foot z.ps z.nb z.jv k ∨ k = z.ub ∨ k = z.mb ∨ z.bv.ownBlock = some k

def clsC (z : Zs) (n : Nat) (j : Nat) : Value :=
  if j = 0 then .pointer (some ⟨z.ps, 0, none⟩) else if j = 1 then .slice (some ⟨z.tb, 0, none⟩) n n else if j = 2 then .slice (some ⟨z.ub, 0, none⟩) n n else if j = 3 then .map (some z.mb) else z.bv
def termC (l : List Tm) (av : Nat → Value) (j : Nat) : Value := if j % 2 = 0 then .string ((l[j / 2]?).map Tm.name |>.getD ⟨#[]⟩) else av (j / 2)

/-- The classes lie at block pk. -/
structure Cz (w : World) (base : Nat) (l : List Tm) (z : Zs) : Prop where
  cls : w.rowIs z.pk 71 5 (clsC z l.length)
  sets : St w base z.ps z.nb z.jv l.length z.g z.t
  terms : w.rowIs z.tb 102 (l.length * 2) (termC l z.av)
  uses : w.rowIs z.ub 110 l.length z.uv
  known : ∃ D, mapIs w 98 z.mb D ∧ Maps.size D ≤ z.ms ∧ ∀ s : Tm, Sk s → Says D (gkey s) (z.kn s)
  back : w.ownsRow base 1 1 z.bv z.bs.length z.bs
  sat : Sat z.st w
  far : ∀ x ∈ z.st, base ≤ x.1 ∧ ¬ z.Foot x.1
  argsAt : ∀ (i : Nat) (t : Tm), l[i]? = some t → UseIs z.st (z.av i) t.args
  usesAt : ∀ i, i < l.length → UseIs z.st (z.uv i) (z.us i)
  bd : Cc.Bd l
  oks : ∀ t ∈ l, t.ok
  len : l.length ≤ 150
  bp : base ≤ z.pk
  bt : base ≤ z.tb
  bu : base ≤ z.ub
  bm : base ≤ z.mb

theorem ownsRow_blockC {w w' : World} {base size n : Nat} {e : TypeId} {v : Value} {xs : List Value} (h : w.ownsRow base e size v n xs) (he : ∀ k, v.ownBlock = some k → w'.heap[k]? = w.heap[k]?) : w'.ownsRow base e size v n xs := by
  refine ⟨h.1, ?_⟩
  rcases h.2 with e | ⟨b, cap, cur, e, e1, e2, e3⟩
  · exact Or.inl e
  · exact Or.inr ⟨b, cap, cur, e, e1, (he b (by rw [e]; rfl)).trans e2, e3⟩
theorem mapIs_block {w w' : World} {k : TypeId} {b : Nat} {D : DataW Unit} (h : mapIs w k b D) (hn : w'.heap[b]? = w.heap[b]?) : mapIs w' k b D := by
  obtain ⟨es, ck, n1, n2, n3, n4⟩ := h
  exact ⟨es, ck, hn.trans n1, n2, n3, n4⟩

/-- All blocks that it lies in. -/
def Zs.All (z : Zs) (k : Nat) : Prop := z.Foot k ∨ k = z.tb ∨ ∃ o, (k, o) ∈ z.st

theorem Cz.foot_lt {w : World} {base : Nat} {l : List Tm} {z : Zs} (h : Cz w base l z) {k : Nat} (hk : z.Foot k) : k < w.heap.size := by
  obtain ⟨D, d1, _⟩ := h.known
  rcases hk with e | (e | e | e) | e | e | e
  · rw [e]; exact h.cls.lt
  · rw [e]; exact h.sets.lies.sets.lt
  · rw [e]; exact h.sets.lies.nodes.lt
  · exact (h.sets.lies.joins.lt k e).2
  · rw [e]; exact h.uses.lt
  · rw [e]; exact World.ownsMap.lt d1
  · exact (h.back.lt k e).2
theorem Cz.foot_ge {w : World} {base : Nat} {l : List Tm} {z : Zs} (h : Cz w base l z) {k : Nat} (hk : z.Foot k) : base ≤ k := by
  rcases hk with e | (e | e | e) | e | e | e
  · rw [e]; exact h.bp
  · rw [e]; exact h.sets.lies.bp
  · rw [e]; exact h.sets.lies.bn
  · exact (h.sets.lies.joins.lt k e).1
  · rw [e]; exact h.bu
  · rw [e]; exact h.bm
  · exact (h.back.lt k e).1
theorem Cz.all_lt {w : World} {base : Nat} {l : List Tm} {z : Zs} (h : Cz w base l z) {k : Nat} (hk : z.All k) : k < w.heap.size := by
  rcases hk with e | e | ⟨o, e⟩
  · exact h.foot_lt e
  · rw [e]; exact h.terms.lt
  · exact (Array.getElem?_eq_some_iff.1 (h.sat _ e)).1
theorem Cz.all_ge {w : World} {base : Nat} {l : List Tm} {z : Zs} (h : Cz w base l z) {k : Nat} (hk : z.All k) : base ≤ k := by
  rcases hk with e | e | ⟨o, e⟩
  · exact h.foot_ge e
  · rw [e]; exact h.bt
  · exact (h.far _ e).1

/-- Others' changes leave it alone. -/
theorem Cz.keep {w w' : World} {base : Nat} {l : List Tm} {z : Zs} (h : Cz w base l z) {S : Nat → Prop} (K : Kept S w w') (hS : ∀ k, z.All k → ¬ S k) : Cz w' base l z := by
  have B : ∀ k, z.All k → w'.heap[k]? = w.heap[k]? := fun k hk => K.block k (h.all_lt hk) (hS k hk)
  obtain ⟨D, d1, d2, d3⟩ := h.known
  refine ⟨h.cls.of_block (B _ (.inl (.inl rfl))), h.sets.other K (hS _ (.inl (.inr (.inl (.inl rfl))))) (hS _ (.inl (.inr (.inl (.inr (.inl rfl)))))) (fun k hk => hS k (.inl (.inr (.inl (.inr (.inr hk)))))), h.terms.of_block (B _ (.inr (.inl rfl))), h.uses.of_block (B _ (.inl (.inr (.inr (.inl rfl))))),
    ⟨D, mapIs_block d1 (B _ (.inl (.inr (.inr (.inr (.inl rfl)))))), d2, d3⟩, ownsRow_blockC h.back (fun k hk => B k (.inl (.inr (.inr (.inr (.inr hk)))))), fun x hx => (B x.1 (.inr (.inr ⟨x.2, hx⟩))).trans (h.sat x hx), h.far, h.argsAt, h.usesAt, h.bd, h.oks, h.len, h.bp, h.bt, h.bu, h.bm⟩
theorem Cz.kept0 {w w' : World} {base : Nat} {l : List Tm} {z : Zs} (h : Cz w base l z) (K : Kept0 w w') : Cz w' base l z := h.keep K (fun _ _ e => e)
theorem Cz.drewN {w : World} {base : Nat} {l : List Tm} {z : Zs} (h : Cz w base l z) (m : Nat) : Cz (w.drewN m) base l z := h.kept0 ((Kept.refl _ w).drewN m)
theorem Cz.drew {w : World} {base : Nat} {l : List Tm} {z : Zs} (h : Cz w base l z) : Cz w.drew base l z := h.kept0 (Kept.refl _ w).drew

theorem Cz.k0 {w : World} {base : Nat} {l : List Tm} {z : Zs} (h : Cz w base l z) : w.cell? ⟨z.pk, 0, none⟩ = some (.pointer (some ⟨z.ps, 0, none⟩)) := h.cls.cell (i := 0) (by omega)
theorem Cz.k1 {w : World} {base : Nat} {l : List Tm} {z : Zs} (h : Cz w base l z) : w.cell? ⟨z.pk, 1, none⟩ = some (.slice (some ⟨z.tb, 0, none⟩) l.length l.length) := h.cls.cell (i := 1) (by omega)
theorem Cz.k2 {w : World} {base : Nat} {l : List Tm} {z : Zs} (h : Cz w base l z) : w.cell? ⟨z.pk, 2, none⟩ = some (.slice (some ⟨z.ub, 0, none⟩) l.length l.length) := h.cls.cell (i := 2) (by omega)
theorem Cz.k3 {w : World} {base : Nat} {l : List Tm} {z : Zs} (h : Cz w base l z) : w.cell? ⟨z.pk, 3, none⟩ = some (.map (some z.mb)) := h.cls.cell (i := 3) (by omega)
theorem Cz.k4 {w : World} {base : Nat} {l : List Tm} {z : Zs} (h : Cz w base l z) : w.cell? ⟨z.pk, 4, none⟩ = some z.bv := h.cls.cell (i := 4) (by omega)
theorem Cz.t0 {w : World} {base : Nat} {l : List Tm} {z : Zs} (h : Cz w base l z) {n : Nat} {t : Tm} (ht : l[n]? = some t) : w.cell? ⟨z.tb, n * 2, none⟩ = some (.string t.name) := by
  have hn := (List.getElem?_eq_some_iff.1 ht).1
  rw [h.terms.cell (i := n * 2) (by omega)]
  simp [termC, ht]
theorem Cz.t1 {w : World} {base : Nat} {l : List Tm} {z : Zs} (h : Cz w base l z) {n : Nat} {t : Tm} (ht : l[n]? = some t) : w.cell? ⟨z.tb, n * 2 + 1, none⟩ = some (z.av n) := by
  have hn := (List.getElem?_eq_some_iff.1 ht).1
  rw [h.terms.cell (i := n * 2 + 1) (by omega)]
  have h1 : (n * 2 + 1) % 2 = 1 := by omega
  have h2 : (n * 2 + 1) / 2 = n := by omega
  simp [termC, h1, h2]
theorem Cz.u {w : World} {base : Nat} {l : List Tm} {z : Zs} (h : Cz w base l z) {n : Nat} (hn : n < l.length) : w.cell? ⟨z.ub, n, none⟩ = some (z.uv n) := h.uses.cell (by omega)
theorem Cz.ok {w : World} {base : Nat} {l : List Tm} {z : Zs} (h : Cz w base l z) : Uf.Ok l.length z.g z.t.length := h.sets.ok

/-- The least term of a class. -/
theorem Cz.least {w : World} {base : Nat} {l : List Tm} {z : Zs} (h : Cz w base l z) {a : Nat} (ha : a < l.length) :
    Calls Tryz.prog 38 #[.pointer (some ⟨z.ps, 0, none⟩), .int .i64 (a : Int)] w fun e w' => e = .returned (.int .i64 (z.g.lo a : Int)) ∧ ∃ m, w' = w.drewN m := by
  have := Least_in w base z.ps z.nb l.length z.g z.jv _ h.sets.lies _ h.ok a
  rw [inB_nat ha, if_pos rfl, Int.toNat_natCast] at this
  exact this

end Go.Proofs.YtlehlgipbhfioaaGreat

namespace Go.Proofs.YtlehlgipbhfioaaGreat
open Go.RowKit Go.Maps Go.ChangeShapes Go.WideShapes Go.MapKept Go.ChangeMaps Go.WideElems

/-- The number of a Pair: its place, from 1; 0 if there is none. -/
def numP (ps : List (Int × Int)) (p : Int × Int) : Nat := if p ∈ ps then ps.idxOf p + 1 else 0
theorem numP_snoc {ps : List (Int × Int)} {p : Int × Int} (h : p ∉ ps) (q : Int × Int) : numP (ps ++ [p]) q = if q = p then ps.length + 1 else numP ps q := by
  unfold numP
  by_cases e : q = p
  · subst e
    rw [if_pos (by simp), if_pos rfl, List.idxOf_append, if_neg h]
    simp
  · rw [if_neg e]
    by_cases hq : q ∈ ps
    · rw [if_pos (by simp [hq]), if_pos hq, List.idxOf_append, if_pos hq]
    · rw [if_neg (by simp [hq, e]), if_neg hq]
theorem numP_le (ps : List (Int × Int)) (p : Int × Int) : numP ps p ≤ ps.length := by
  unfold numP
  split
  · next h => exact List.idxOf_lt_length_of_mem h
  · omega

/-- The map at ab says each Pair's number. -/
def NumIs (W : World) (ab : Nat) (ps : List (Int × Int)) : Prop :=
  ∃ D, mapIs W 34 ab D ∧ Maps.size D ≤ ps.length ∧ ∀ p, P64 p → D.atKey (pkey p) (.lit (.int .i64 0)) = .lit (.int .i64 (numP ps p : Int))
theorem NumIs.new (W : World) : NumIs (W.alloc (.map #[] 0)) W.heap.size [] := by
  refine ⟨_, mapIs_of (World.ownsMap_made W Tryz.prog 34 (plainElem Tryz.prog 3)), ?_, fun p hp => ?_⟩
  · exact Nat.le_refl _
  · rfl
theorem NumIs.keep {W W' : World} {mb : Nat} {l : List (Int × Int)} (h : NumIs W mb l) (hb : W'.heap[mb]? = W.heap[mb]?) : NumIs W' mb l := by
  obtain ⟨D, h1, h2, h3⟩ := h
  obtain ⟨es, clock, e1, e2, e3, e4⟩ := h1
  exact ⟨D, ⟨es, clock, hb.trans e1, e2, e3, e4⟩, h2, h3⟩
theorem NumIs.lt {W : World} {mb : Nat} {l : List (Int × Int)} (h : NumIs W mb l) : ∃ es clock, W.heap[mb]? = some (Obj.map es clock) := by
  obtain ⟨D, ⟨es, clock, e1, _⟩, _⟩ := h
  exact ⟨es, clock, e1⟩
/-- 'atoms[p]'. -/
theorem NumIs.look {W : World} {mb : Nat} {l : List (Int × Int)} (h : NumIs W mb l) {p : Int × Int} (hp : P64 p) :
    (Instr.lookup 113 (.map (some mb)) (pairV p) false).run Tryz.prog W = .ok (.int .i64 (numP l p : Int)) W := by
  obtain ⟨D, h1, h2, h3⟩ := h
  obtain ⟨c, hrun, hat, _⟩ := World.ownsMap.lookup_int h1 pLaw Tryz.underlying113 Tryz.underlying3 (zeroI W) (pkey_of hp)
  rw [h3 p hp] at hat
  simp at hat
  rw [hrun, hat]
/-- 'atoms[p] = n'. -/
theorem NumIs.store {W : World} {mb : Nat} {l : List (Int × Int)} (h : NumIs W mb l) {p : Int × Int} (hp : P64 p) (hn : p ∉ l) (hl : l.length < 140737488355328) :
    ∃ W2, (Instr.mapUpdate 113 (.map (some mb)) (pairV p) (.int .i64 ((l.length + 1 : Nat) : Int))).run Tryz.prog W = .ok () W2 ∧ NumIs W2 mb (l ++ [p]) ∧ Kept1 mb W W2 := by
  obtain ⟨D, h1, h2, h3⟩ := h
  obtain ⟨w', hr, ho, hturn⟩ := World.ownsMap.store h1 pLaw Tryz.underlying113 (by unfold maxLen; omega) (pkey_of hp) (plainElem_int (H := Unit) Tryz.underlying3 (WalkArith.wf_i64 (n := ((l.length + 1 : Nat) : Int)) (by omega)))
  have tidy := World.ownsMap.tidy h1 pLaw
  refine ⟨w', hr, ⟨_, mapIs_of ho, ?_, fun q hq => ?_⟩, Kept1.of_grown hturn.grown⟩
  · rw [size_put tidy]
    simp only [List.length_append, List.length_singleton]
    split <;> omega
  · rw [numP_snoc hn]
    by_cases e : q = p
    · subst e
      obtain ⟨kk, e, hk⟩ := pkey_lit hq
      rw [e, atKey_put_same tidy.isMap hk]
      simp
    · rw [atKey_put_other (fun x => e (pkey_inj hq hp x)), h3 q hq, if_neg e]

abbrev Sc := Nat × List (List Int)
def mkC (ab : Nat) (n : Nat) (rv : Value) : Nat → Value := fun j => if j = 0 then .map (some ab) else if j = 1 then .int .i64 (n : Int) else rv

/-- No two of these lie in one block. -/
def RsDst (rs : List Value) : Prop := ∀ (i j g n m c c' : Nat), rs[i]? = some (.slice (some ⟨g, 0, none⟩) n c) → rs[j]? = some (.slice (some ⟨g, 0, none⟩) m c') → i = j

/-- A maker in the blocks S. -/
structure Mk (S : Nat → Prop) (W : World) (mb ab : Nat) (ps : List (Int × Int)) (rv : Value) (st : Sc) : Prop where
  lt : ∀ k, S k → k < W.heap.size
  smb : S mb
  sab : S ab
  srv : ∀ k, rv.ownBlock = some k → S k
  cells : W.rowIs mb 226 3 (mkC ab st.1 rv)
  map : NumIs W ab ps
  rows : ∃ rs : List Value, W.ownsRow 0 39 1 rv rs.length rs ∧ (rs.length = st.2.length ∧ RsDst rs) ∧ ∀ (i : Nat) (c : List Int), st.2[i]? = some c → ∃ g cap, rs[i]? = some (.slice (some ⟨g, 0, none⟩) c.length cap) ∧ S g ∧ Rw W g c

theorem ownsRow_block {W W' : World} {base size k : Nat} {ty : TypeId} {v : Value} {xs : List Value} (h : W.ownsRow base ty size v k xs) (hb : ∀ b, v.ownBlock = some b → W'.heap[b]? = W.heap[b]?) : W'.ownsRow base ty size v k xs := by
  refine ⟨h.1, ?_⟩
  rcases h.2 with e | ⟨g, cap, cur, e, e1, e2, e3⟩
  · exact Or.inl e
  · exact Or.inr ⟨g, cap, cur, e, e1, (hb g (by rw [e]; rfl)).trans e2, e3⟩
theorem Mk.keep {S : Nat → Prop} {W W' : World} {mb ab : Nat} {ps : List (Int × Int)} {rv : Value} {st : Sc} (h : Mk S W mb ab ps rv st) (hs : W.heap.size ≤ W'.heap.size) (hb : ∀ k, S k → W'.heap[k]? = W.heap[k]?) : Mk S W' mb ab ps rv st := by
  obtain ⟨rs, h1, h2, h3⟩ := h.rows
  refine ⟨fun k hk => Nat.lt_of_lt_of_le (h.lt k hk) hs, h.smb, h.sab, h.srv, h.cells.of_block (hb _ h.smb), h.map.keep (hb _ h.sab), rs, ownsRow_block h1 (fun b e => hb b (h.srv b e)), h2, fun i c hi => ?_⟩
  obtain ⟨g, cap, q1, q2, q3⟩ := h3 i c hi
  exact ⟨g, cap, q1, q2, q3.block (hb g q2)⟩
theorem Mk.wider {S S' : Nat → Prop} {W : World} {mb ab : Nat} {ps : List (Int × Int)} {rv : Value} {st : Sc} (h : Mk S W mb ab ps rv st) (hS : ∀ k, S k → S' k) (hl : ∀ k, S' k → k < W.heap.size) : Mk S' W mb ab ps rv st := by
  obtain ⟨rs, h1, h2, h3⟩ := h.rows
  refine ⟨hl, hS _ h.smb, hS _ h.sab, fun k e => hS _ (h.srv k e), h.cells, h.map, rs, h1, h2, fun i c hi => ?_⟩
  obtain ⟨g, cap, q1, q2, q3⟩ := h3 i c hi
  exact ⟨g, cap, q1, hS _ q2, q3⟩

/-- What a maker's step leaves: other blocks than its own and its row of clauses stay. -/
structure MadeX (S : Nat → Prop) (w : World) (rv : Value) (S' : Nat → Prop) (w' : World) (rv' : Value) (mb ab : Nat) (ps : List (Int × Int)) (st' : Sc) : Prop where
  is : Mk S' w' mb ab ps rv' st'
  new : ∀ k, S' k → S k ∨ w.heap.size ≤ k
  at_ : rv'.ownBlock = rv.ownBlock ∨ ∀ k, rv'.ownBlock = some k → w.heap.size ≤ k
  kept : Kept (fun k => k = mb ∨ rv.ownBlock = some k) w w'
def Made (S : Nat → Prop) (w w' : World) (mb ab : Nat) (ps : List (Int × Int)) (rv : Value) (st' : Sc) : Prop := ∃ S' rv', MadeX S w rv S' w' rv' mb ab ps st'

theorem MadeX.trans {S S1 S2 : Nat → Prop} {w w1 w2 : World} {mb ab : Nat} {ps : List (Int × Int)} {rv rv1 rv2 : Value} {st1 st2 : Sc} (h1 : MadeX S w rv S1 w1 rv1 mb ab ps st1) (h2 : MadeX S1 w1 rv1 S2 w2 rv2 mb ab ps st2) : MadeX S w rv S2 w2 rv2 mb ab ps st2 := by
  have z1 := h1.kept.size
  refine ⟨h2.is, fun k hk => ?_, ?_, ?_⟩
  · rcases h2.new k hk with e | e
    · exact h1.new k e
    · exact Or.inr (by omega)
  · rcases h2.at_ with e | e
    · rw [e]; exact h1.at_
    · exact Or.inr (fun k hk => by have := e k hk; omega)
  · refine ⟨h2.kept.os.trans h1.kept.os, h2.kept.tape.trans h1.kept.tape, h2.kept.output.trans h1.kept.output, Nat.le_trans z1 h2.kept.size, fun k hk hn => ?_⟩
    refine (h2.kept.block k (Nat.lt_of_lt_of_le hk z1) ?_).trans (h1.kept.block k hk hn)
    rintro (e | e)
    · exact hn (Or.inl e)
    · rcases h1.at_ with e1 | e1
      · exact hn (Or.inr (by rw [← e1]; exact e))
      · have := e1 k e; omega

theorem infoInts : (Tryz.prog.info? 39).map (fun i => (i.zero, i.size, i.bytes)) = some (some (.slice none 0 0), 1, 24) := by kernel_rfl

set_option maxRecDepth 100000 in
set_option maxHeartbeats 2000000 in
theorem variable_in (w : World) (S : Nat → Prop) (mb ab : Nat) (ps : List (Int × Int)) (rv : Value) (st : Sc) (h : Mk S w mb ab ps rv st) (hs : st.1 ≤ 1099511627776) :
    Calls Tryz.prog 117 #[.pointer (some ⟨mb, 0, none⟩)] w fun e w' => e = .returned (.int .i64 ((st.1 + 1 : Nat) : Int)) ∧ Mk S w' mb ab ps rv (st.1 + 1, st.2) ∧ Kept (fun k => k = mb) w w' := by
  have c1 : w.cell? ⟨mb, 1, none⟩ = some (.int .i64 (st.1 : Int)) := h.cells.cell (i := 1) (by omega)
  have f1 := h.cells.frozen 1
  have HM : Hid (Mk S (w.setCell ⟨mb, 1, none⟩ (.int .i64 ((st.1 : Int) + 1))) mb ab ps rv (st.1 + 1, st.2) ∧ Kept (fun k => k = mb) w (w.setCell ⟨mb, 1, none⟩ (.int .i64 ((st.1 : Int) + 1)))) := by
    have K : Kept (fun k => k = mb) w (w.setCell ⟨mb, 1, none⟩ (.int .i64 ((st.1 : Int) + 1))) := Kept.setCell (S := fun k => k = mb) (Kept.refl _ w) (p := ⟨mb, 1, none⟩) rfl _
    obtain ⟨rs, h1, h2, h3⟩ := h.rows
    have nb : ∀ k, k < w.heap.size → k ≠ mb → (w.setCell ⟨mb, 1, none⟩ (.int .i64 ((st.1 : Int) + 1))).heap[k]? = w.heap[k]? := fun k hk hne => K.block k hk hne
    refine ⟨⟨fun k hk => Nat.lt_of_lt_of_le (h.lt k hk) K.size, h.smb, h.sab, h.srv, ?_, h.map.keep (nb _ (h.lt _ h.sab) ?_), rs, ownsRow_block h1 (fun b e => nb b (h.lt _ (h.srv b e)) ?_), h2, fun i c hi => ?_⟩, K⟩
    · refine (h.cells.set 1 _).congr (fun j hj => ?_)
      unfold mkC
      by_cases e : j = 1
      · subst e; simp
      · simp [e]
    · rintro rfl
      obtain ⟨es, ck, e⟩ := h.map.lt
      obtain ⟨c, hc, _⟩ := h.cells
      rw [e] at hc
      cases hc
    · rintro rfl
      exact rowIs_type h.cells (by decide) h1 e
    · obtain ⟨g, cap, q1, q2, q3⟩ := h3 i c hi
      refine ⟨g, cap, q1, q2, q3.block (nb g (h.lt _ q2) ?_)⟩
      rintro rfl
      obtain ⟨N, F, _, ⟨c1, hc1, _⟩, _⟩ := q3
      obtain ⟨c2, hc2, _⟩ := h.cells
      rw [hc1] at hc2
      injection hc2 with hc2
      injection hc2 with _ hc2
      exact absurd hc2 (by decide)
  have d1 : IntKind.i64.wrap ((st.1 : Int) + 1) = (st.1 : Int) + 1 := by rw [IntKind.wrap_i64]; omega
  clear h
  go_enter Tryz.func117, Tryz.ntmps117
  go_wp2_with fail
  go_ret
  exact ⟨by simp, HM.out⟩

end Go.Proofs.YtlehlgipbhfioaaGreat

namespace Go.Proofs.YtlehlgipbhfioaaGreat
open Go.RowKit Go.Maps

/-- A row by what is ahead of its cut. -/
def RowTo (w : World) (base g cap k : Nat) (xs : List Value) : Prop :=
  ∃ cur, base ≤ g ∧ w.heap[g]? = some (.cells cur 152 (0, 0)) ∧ cap ≤ maxLen ∧ cur.size = cap * 6 ∧ cur.toList.take (k * 6) = xs

theorem RowTo.owns {w : World} {base g cap k : Nat} {xs : List Value} (h : RowTo w base g cap k xs) (hk : k ≤ cap) : w.ownsRow base 152 6 (.slice (some ⟨g, 0, none⟩) k cap) k xs := by
  obtain ⟨cur, h1, h2, h3, h4, h5⟩ := h
  refine ⟨?_, Or.inr ⟨g, cap, cur, rfl, h1, h2, hk, h3, h4, h5⟩⟩
  rw [← h5, List.length_take]
  simp [h4]
  omega

theorem RowTo.of {w : World} {base g cap n : Nat} {xs : List Value} (h : w.ownsRow base 152 6 (.slice (some ⟨g, 0, none⟩) n cap) n xs) {k : Nat} (hk : k ≤ n) : RowTo w base g cap k (xs.take (k * 6)) ∧ n ≤ cap := by
  rcases h.2 with ⟨e, _⟩ | ⟨g', cap', cur, e, h1, h2, h3, h4, h5, h6⟩
  · cases e
  · injection e with e1 e2 e3
    injection e1 with e1
    injection e1 with e1 _ _
    subst e1
    subst e3
    refine ⟨⟨cur, h1, h2, h4, h5, ?_⟩, h3⟩
    rw [← h6, List.take_take]
    congr 1
    omega

theorem RowTo.set {w : World} {base g cap k : Nat} {xs : List Value} (h : RowTo w base g cap k xs) {o : Nat} (ho : k * 6 ≤ o) (u : Value) : RowTo (w.setCell ⟨g, o, none⟩ u) base g cap k xs := by
  obtain ⟨cur, h1, h2, h3, h4, h5⟩ := h
  refine ⟨cur.setIfInBounds o u, h1, ?_, h3, by simpa using h4, ?_⟩
  · rw [setCell_eq_setRow w g o cur _ (0, 0) _ h2, setRow_heap w g _ _ _ _ h2]
  · rw [← h5]
    simp [List.take_set]
    rw [List.set_eq_of_length_le]
    simp
    omega

theorem RowTo.sets {base g cap k : Nat} {xs : List Value} : ∀ (vs : List Value) (o : Nat) (w : World), RowTo w base g cap k xs → k * 6 ≤ o → RowTo (w.setCells g o vs) base g cap k xs
  | [], _, _, h, _ => h
  | v :: vs, o, w, h, ho => RowTo.sets vs (o + 1) (w.setCell ⟨g, o, none⟩ v) (h.set ho v) (by omega)

/-- 'clear(s)' of elements of several cells. -/
theorem run_clear_many {P : Program} (w : World) (t e ty : TypeId) (z : Value) (ht : P.underlying t = some (.slice e)) (hv : ∀ w, (zeroValue e).run P w = .ok z w) (b o n c : Nat) (hn : 0 < n) (vs : List Value) (hvs : (Builtin.zeroCells z.cells n).toList = vs) (h1 : ∀ v ∈ vs, v.oneCell' = true)
    (hc : ∀ j, j < vs.length → (w.cell? ⟨b, o + j, none⟩).isSome = true) (hf : ∀ j, j < vs.length → w.frozen? ⟨b, o + j, none⟩ = false) :
    (Builtin.clear_ #[t] ty #[.slice (some ⟨b, o, none⟩) n c]).run P w = .ok (.tuple #[]) (w.setCells b o vs) := by
  have hst := run_storeCells_cells (P := P) b o vs 0 w (by simpa using hc) (by simpa using hf) h1
  simp only [Nat.add_zero] at hst
  obtain ⟨m, rfl⟩ : ∃ m, n = m + 1 := ⟨n - 1, by omega⟩
  simp [Builtin.clear_, run_underlying ht, hv, hvs, hst]

end Go.Proofs.YtlehlgipbhfioaaGreat

namespace Go.Proofs.YtlehlgipbhfioaaGreat
open Go.RowKit Go.Maps

theorem Kept.setNew {S : Nat → Prop} {w W : World} (h : Kept S w W) {b off : Nat} (hb : w.heap.size ≤ b) (u : Value) : Kept S w (W.setCell ⟨b, off, none⟩ u) :=
  ⟨h.os, h.tape, h.output, by simpa [World.setCell] using h.size, fun k hk hs => (Below.heap_setCell _ _ _ _ (fun e => by have : k = b := e; omega)).trans (h.block k hk hs)⟩

/-- A signature that is filled in as far as k. -/
def sgF (s : Tm) (k : Nat) (j : Nat) : Value := if j = 0 then .string s.name else if j ≤ k then .int .i64 (s.arg (j - 1) : Int) else .int .i64 0

theorem sgF_step {lo : Nat → Nat} {t : Tm} {k a : Nat} (h4 : t.args.length ≤ 4) (hk : t.args[k]? = some a) : ∀ j, j < 5 → (if j = 1 + k then Value.int .i64 (lo a : Int) else sgF (Cc.sg lo t) k j) = sgF (Cc.sg lo t) (k + 1) j := by
  intro j hj
  have hkl := (List.getElem?_eq_some_iff.1 hk).1
  have ha : (Cc.sg lo t).arg k = lo a := by rw [Cc.sg_arg _ _ _ (by omega), Cc.ar_some hk]
  unfold sgF
  by_cases e : j = 1 + k
  · subst e
    rw [if_pos rfl, if_neg (by omega), if_pos (by omega), show 1 + k - 1 = k by omega, ha]
  · rw [if_neg e]
    by_cases e0 : j = 0
    · rw [if_pos e0, if_pos e0]
    · rw [if_neg e0, if_neg e0]
      by_cases e1 : j ≤ k
      · rw [if_pos e1, if_pos (by omega)]
      · rw [if_neg e1, if_neg (by omega)]


theorem sgF_all {lo : Nat → Nat} {t : Tm} {j : Nat} (h4 : t.args.length ≤ 4) (hj : j < 5) : (sigL (Cc.sg lo t)).toArray[j]?.getD undef = sgF (Cc.sg lo t) t.args.length j := by
  have hz : ∀ k, t.args.length ≤ k → k < 4 → (Cc.sg lo t).arg k = 0 := fun k h1 h2 => by
    rw [Cc.sg_arg _ _ _ h2]
    unfold Cc.ar
    rw [List.getElem?_eq_none h1]
  unfold sgF
  rcases (by omega : j = 0 ∨ j = 1 ∨ j = 2 ∨ j = 3 ∨ j = 4) with rfl | rfl | rfl | rfl | rfl
  · rfl
  · by_cases e : 1 ≤ t.args.length
    · simp [sigL, e]
    · simp [sigL, e, hz 0 (by omega)]
  · by_cases e : 2 ≤ t.args.length
    · simp [sigL, e]
    · simp [sigL, e, hz 1 (by omega)]
  · by_cases e : 3 ≤ t.args.length
    · simp [sigL, e]
    · simp [sigL, e, hz 2 (by omega)]
  · by_cases e : 4 ≤ t.args.length
    · simp [sigL, e]
    · simp [sigL, e, hz 3 (by omega)]

set_option maxHeartbeats 1000000 in
set_option maxRecDepth 100000 in
theorem sig_in (w : World) (base : Nat) (l : List Tm) (z : Zs) (h : Cz w base l z) (n : Nat) (t : Tm) (ht : l[n]? = some t) :
    Calls Tryz.prog 34 #[.pointer (some ⟨z.pk, 0, none⟩), .int .i64 (n : Int)] w fun e w' => e = .returned (sigV (Cc.sg z.g.lo t)) ∧ Kept0 w w' := by
  have hn : n < l.length := (List.getElem?_eq_some_iff.1 ht).1
  have hlen := h.len
  have hok := h.oks t (List.mem_of_getElem? ht)
  have h4 := hok.args
  have hargs := h.argsAt n t ht
  have hV : sigV (Cc.sg z.g.lo t) = .agg #[.string (Cc.sg z.g.lo t).name, .int .i64 ((Cc.sg z.g.lo t).arg 0 : Int), .int .i64 ((Cc.sg z.g.lo t).arg 1 : Int), .int .i64 ((Cc.sg z.g.lo t).arg 2 : Int), .int .i64 ((Cc.sg z.g.lo t).arg 3 : Int)] := rfl
  rw [hV]
  clear hV
  have K1 : Kept0 w (w.alloc (.cells #[.string ⟨#[]⟩, .int .i64 0, .int .i64 0, .int .i64 0, .int .i64 0] 98)) := Kept.alloc (Kept.refl _ w) _
  have R1 := made_row w #[.string ⟨#[]⟩, .int .i64 0, .int .i64 0, .int .i64 0, .int .i64 0] 98
  have k1 := (h.kept0 K1).k1
  have t0 := (h.kept0 K1).t0 ht
  have t1 := (h.kept0 K1).t1 ht
  obtain ⟨aa, ac, hav⟩ := hargs.form
  rw [hav] at t1 hargs
  go_enter Tryz.func34, Tryz.ntmps34
  go_wp2_with fail
  have F0 : ∀ W : World, (W.alloc (.cells #[.string t.name, .int .i64 0, .int .i64 0, .int .i64 0, .int .i64 0] 98)).rowIs W.heap.size 98 5 (sgF (Cc.sg z.g.lo t) 0) := fun W => (made_row W #[.string t.name, .int .i64 0, .int .i64 0, .int .i64 0, .int .i64 0] 98).congr (fun j hj => by
    have hj' : j < 5 := hj
    rcases (by omega : j = 0 ∨ j = 1 ∨ j = 2 ∨ j = 3 ∨ j = 4) with rfl | rfl | rfl | rfl | rfl <;> rfl)
  have F1 := F0 ((w.alloc (.cells #[.string ⟨#[]⟩, .int .i64 0, .int .i64 0, .int .i64 0, .int .i64 0] 98)).alloc (.cells #[.string t.name, .slice aa t.args.length ac] 102))
  have hsz : ((w.alloc (.cells #[.string ⟨#[]⟩, .int .i64 0, .int .i64 0, .int .i64 0, .int .i64 0] 98)).alloc (.cells #[.string t.name, .slice aa t.args.length ac] 102)).heap.size = w.heap.size + 1 + 1 := by simp
  rw [hsz] at F1
  have K3 := (K1.alloc (.cells #[.string t.name, .slice aa t.args.length ac] 102)).alloc (.cells #[.string t.name, .int .i64 0, .int .i64 0, .int .i64 0, .int .i64 0] 98)
  have R3 := World.rowIs.alloc (World.rowIs.alloc R1 (.cells #[.string t.name, .slice aa t.args.length ac] 102)) (.cells #[.string t.name, .int .i64 0, .int .i64 0, .int .i64 0, .int .i64 0] 98)
  generalize ((w.alloc (.cells #[.string ⟨#[]⟩, .int .i64 0, .int .i64 0, .int .i64 0, .int .i64 0] 98)).alloc (.cells #[.string t.name, .slice aa t.args.length ac] 102)).alloc (.cells #[.string t.name, .int .i64 0, .int .i64 0, .int .i64 0, .int .i64 0] 98) = w3 at F1 K3 R3 ⊢
  clear F0 hsz K1 R1 k1 t0 t1
  have hb6 : w.heap.size < w.heap.size + 1 + 1 := by omega
  generalize w.heap.size + 1 + 1 = b6 at F1 hb6 ⊢
  go_loopw [22] (fun t22 W => ∃ k : Nat, k ≤ t.args.length ∧ t22 = .int .i64 (k : Int) ∧ W.rowIs b6 98 5 (sgF (Cc.sg z.g.lo t) k) ∧ (∃ f, W.rowIs w.heap.size 98 5 f) ∧ Kept0 w W) (fun t22 _ => t.args.length - (intOf t22).toNat)
  case atStart => exact ⟨0, by omega, rfl, F1, ⟨_, R3⟩, K3⟩
  case round =>
    clear F1 R3 K3
    obtain ⟨k, hk, rfl, F, ⟨f4, R4⟩, K⟩ := hrel
    have H := h.kept0 K
    have k0 := H.k0
    by_cases hk2 : k < t.args.length
    · have dk : decide ((k : Int) < (t.args.length : Int)) = true := decide_eq_true (by omega)
      have hka : t.args[k]? = some t.args[k] := List.getElem?_eq_getElem hk2
      obtain ⟨b, off, cap, hv, _, hc⟩ := hargs.cell H.sat hka
      injection hv with e1 e2 e3
      subst e1 e3
      have ck := hc k _ hka
      have hlt := h.bd.args n t ht _ (List.getElem_mem hk2)
      have LE := fun m => (H.drewN m).least hlt
      have hka4 := h.bd.four t (List.mem_of_getElem? ht)
      have x1 : wr.cell? ⟨b6, 1 + k, none⟩ = some (.int .i64 0) := by
        rw [F.cell (i := 1 + k) (by omega)]
        simp [sgF]
        omega
      have x2 := F.frozen (1 + k)
      clear hc
      go_wp2_with (go_at_call 38; refine (LE 0).mono ?_; rintro e w9 ⟨rfl, m9, rfl⟩)
      refine ⟨⟨k + 1, by omega, by simp, ?_, ⟨_, World.rowIs.setOther (World.rowIs.of_block R4 rfl) (show w.heap.size ≠ b6 by omega) _⟩, Kept.setNew (K.drewN _) (by omega) _⟩, by simp [intOf]; omega⟩
      exact World.rowIs.congr (World.rowIs.set (World.rowIs.of_block F rfl : (wr.drewN m9).rowIs b6 98 5 _) (1 + k) _) (sgF_step hka4 hka)
    · have dk : decide ((k : Int) < (t.args.length : Int)) = false := decide_eq_false (by omega)
      obtain rfl : k = t.args.length := by omega
      have FA : wr.rowIs b6 98 5 (fun j => (sigL (Cc.sg z.g.lo t)).toArray[j]?.getD undef) := F.congr (fun j hj => (sgF_all h4 hj).symm)
      have x0 : wr.cell? ⟨b6, 0, none⟩ = some (.string (Cc.sg z.g.lo t).name) := FA.cell (i := 0) (by omega)
      have x1 : wr.cell? ⟨b6, 1, none⟩ = some (.int .i64 ((Cc.sg z.g.lo t).arg 0 : Int)) := FA.cell (i := 1) (by omega)
      have x2 : wr.cell? ⟨b6, 2, none⟩ = some (.int .i64 ((Cc.sg z.g.lo t).arg 1 : Int)) := FA.cell (i := 2) (by omega)
      have x3 : wr.cell? ⟨b6, 3, none⟩ = some (.int .i64 ((Cc.sg z.g.lo t).arg 2 : Int)) := FA.cell (i := 3) (by omega)
      have x4 : wr.cell? ⟨b6, 4, none⟩ = some (.int .i64 ((Cc.sg z.g.lo t).arg 3 : Int)) := FA.cell (i := 4) (by omega)
      have y0 := R4.cell (i := 0) (by omega)
      have y1 := R4.cell (i := 1) (by omega)
      have y2 := R4.cell (i := 2) (by omega)
      have y3 := R4.cell (i := 3) (by omega)
      have y4 := R4.cell (i := 4) (by omega)
      have v0 := R4.frozen 0
      have v1 := R4.frozen 1
      have v2 := R4.frozen 2
      have v3 := R4.frozen 3
      have v4 := R4.frozen 4
      have hbne : ¬ w.heap.size = b6 := by omega
      go_wp2_with fail
      generalize Cc.sg z.g.lo t = s at *
      have K5 := Kept.setNew (off := 4) (Kept.setNew (off := 3) (Kept.setNew (off := 2) (Kept.setNew (off := 1) (Kept.setNew (off := 0) K (Nat.le_refl _) (.string s.name)) (Nat.le_refl _) (.int .i64 (s.arg 0 : Int))) (Nat.le_refl _) (.int .i64 (s.arg 1 : Int))) (Nat.le_refl _) (.int .i64 (s.arg 2 : Int))) (Nat.le_refl _) (.int .i64 (s.arg 3 : Int))
      have R5 := ((((R4.set 0 (.string s.name)).set 1 (.int .i64 (s.arg 0 : Int))).set 2 (.int .i64 (s.arg 1 : Int))).set 3 (.int .i64 (s.arg 2 : Int))).set 4 (.int .i64 (s.arg 3 : Int))
      generalize ((((wr.setCell ⟨w.heap.size, 0, none⟩ (.string s.name)).setCell ⟨w.heap.size, 1, none⟩ (.int .i64 (s.arg 0 : Int))).setCell ⟨w.heap.size, 2, none⟩ (.int .i64 (s.arg 1 : Int))).setCell ⟨w.heap.size, 3, none⟩ (.int .i64 (s.arg 2 : Int))).setCell ⟨w.heap.size, 4, none⟩ (.int .i64 (s.arg 3 : Int)) = w5 at K5 R5 ⊢
      have z0 : w5.cell? ⟨w.heap.size, 0, none⟩ = some (.string s.name) := R5.cell (i := 0) (by omega)
      have z1 : w5.cell? ⟨w.heap.size, 1, none⟩ = some (.int .i64 (s.arg 0 : Int)) := R5.cell (i := 1) (by omega)
      have z2 : w5.cell? ⟨w.heap.size, 2, none⟩ = some (.int .i64 (s.arg 1 : Int)) := R5.cell (i := 2) (by omega)
      have z3 : w5.cell? ⟨w.heap.size, 3, none⟩ = some (.int .i64 (s.arg 2 : Int)) := R5.cell (i := 3) (by omega)
      have z4 : w5.cell? ⟨w.heap.size, 4, none⟩ = some (.int .i64 (s.arg 3 : Int)) := R5.cell (i := 4) (by omega)
      refine ⟨rfl, .agg #[.string s.name, .int .i64 (s.arg 0 : Int), .int .i64 (s.arg 1 : Int), .int .i64 (s.arg 2 : Int), .int .i64 (s.arg 3 : Int)], by simp [results, Tryz.results34, go_sem, z0, z1, z2, z3, z4], rfl, K5⟩

end Go.Proofs.YtlehlgipbhfioaaGreat

namespace Go.Proofs.YtlehlgipbhfioaaGreat
open Go.RowKit Go.Maps

theorem cell_oneV (w : World) (a : Value) (ty : TypeId) : ∀ j u, [a][j]? = some u → (w.alloc (.cells #[a] ty)).cell? ((⟨w.heap.size, 0, none⟩ : Addr).add j) = some u := by
  intro j u hj
  have hn := made_row w #[a] ty
  match j, hj with
  | 0, hj => simp at hj; subst hj; exact hn.cell (i := 0) (by simp)

theorem row_formM {w : World} {base : Nat} {e : TypeId} {size : Nat} {v : Value} {n : Nat} {xs : List Value} (h : w.ownsRow base e size v n xs) : ∃ a c, v = .slice a n c := by
  rcases h.2 with ⟨rfl, h0⟩ | ⟨b, cap, cur, rfl, _⟩
  · rw [h0]; exact ⟨none, 0, rfl⟩
  · exact ⟨_, cap, rfl⟩

/-- A clause more. -/
theorem Mk.said {S : Nat → Prop} {w w8 : World} {O : Obj} {mb ab : Nat} {ps : List (Int × Int)} {rv v8 : Value} {st : Sc} (h : Mk S w mb ab ps rv st) {rs : List Value} {g cap : Nat} {c : List Int} (hrs : (rs.length = st.2.length ∧ RsDst rs) ∧ ∀ (i : Nat) (c : List Int), st.2[i]? = some c → ∃ g cap, rs[i]? = some (.slice (some ⟨g, 0, none⟩) c.length cap) ∧ S g ∧ Rw w g c)
    (hg : Rw w g c) (hgS : ¬ S g) (hrow : w.ownsRow 0 39 1 rv rs.length rs) (hown : w8.ownsRow 0 39 1 v8 (rs.length + 1) (rs ++ [.slice (some ⟨g, 0, none⟩) c.length cap])) (hgrow : (w.alloc O).grownBy w8 rv.ownBlock) (hat : v8.ownBlock = rv.ownBlock ∨ v8.ownBlock = some (w.alloc O).heap.size) :
    Mk (fun k => S k ∨ k = g ∨ v8.ownBlock = some k) (w8.setCell ⟨mb, 2, none⟩ v8) mb ab ps v8 (st.1, st.2 ++ [c]) ∧ Kept (fun k => k = mb ∨ rv.ownBlock = some k) w (w8.setCell ⟨mb, 2, none⟩ v8) ∧ (v8.ownBlock = rv.ownBlock ∨ ∀ k, v8.ownBlock = some k → w.heap.size ≤ k) := by
  have hne : rv.ownBlock ≠ some mb := rowIs_type h.cells (by decide) hrow
  have K8 : Kept (fun k => k = mb ∨ rv.ownBlock = some k) w w8 := Kept.grown ((Kept.refl _ w).alloc O) hgrow (fun k e => Or.inr e)
  have hc8 : w8.rowIs mb 226 3 (mkC ab st.1 rv) := h.cells.of_block ((hgrow.block _ (by simp; have := h.cells.lt; omega) (fun e => hne e.symm)).trans (Below.heap_alloc w O _ h.cells.lt))
  have hne8 : v8.ownBlock ≠ some mb := rowIs_type hc8 (by decide) hown
  have K9 : Kept (fun k => k = mb ∨ rv.ownBlock = some k) w (w8.setCell ⟨mb, 2, none⟩ v8) := K8.setCell (p := ⟨mb, 2, none⟩) (Or.inl rfl) v8
  have nb : ∀ k, k < w.heap.size → k ≠ mb → rv.ownBlock ≠ some k → (w8.setCell ⟨mb, 2, none⟩ v8).heap[k]? = w.heap[k]? := fun k hk h1 h2 => K9.block k hk (by rintro (e | e); exact h1 e; exact h2 e)
  have rwk : ∀ {g : Nat} {c : List Int}, Rw w g c → Rw (w8.setCell ⟨mb, 2, none⟩ v8) g c := fun {g c} hr => by
    refine hr.block (nb g hr.lt ?_ ?_)
    · rintro rfl
      obtain ⟨N, F, _, ⟨c1, hc1, _⟩, _⟩ := hr
      obtain ⟨c2, hc2, _⟩ := h.cells
      rw [hc1] at hc2
      injection hc2 with hc2
      injection hc2 with _ hc2
      exact absurd hc2 (by decide)
    · obtain ⟨N, F, _, hr2, _⟩ := hr
      exact rowIs_type hr2 (by decide) hrow
  have hlt8 : ∀ k, v8.ownBlock = some k → k < w8.heap.size := fun k hk => by
    rcases hown.2 with ⟨e, _⟩ | ⟨g', cap', cur, e, e1, e2, _⟩
    · rw [e] at hk; simp [Value.ownBlock] at hk
    · rw [e] at hk
      simp [Value.ownBlock] at hk
      subst hk
      exact (Array.getElem?_eq_some_iff.1 e2).1
  have hsz : (w8.setCell ⟨mb, 2, none⟩ v8).heap.size = w8.heap.size := by simp [World.setCell]
  refine ⟨⟨fun k hk => ?_, Or.inl h.smb, Or.inl h.sab, fun k e => Or.inr (Or.inr e), ?_, ?_, rs ++ [.slice (some ⟨g, 0, none⟩) c.length cap], ?_, ⟨by simp [hrs.1.1], ?_⟩, fun i c' hi => ?_⟩, K9, ?_⟩
  · rcases hk with e | rfl | e
    · exact Nat.lt_of_lt_of_le (h.lt k e) K9.size
    · exact Nat.lt_of_lt_of_le hg.lt K9.size
    · rw [hsz]; exact hlt8 k e
  · refine (hc8.set 2 v8).congr (fun j hj => ?_)
    unfold mkC
    by_cases e : j = 2
    · subst e; simp
    · rw [if_neg e]
      have : j = 0 ∨ j = 1 := by omega
      rcases this with rfl | rfl <;> simp
  · refine h.map.keep (nb ab (h.lt _ h.sab) ?_ ?_)
    · rintro rfl
      obtain ⟨es, ck, e⟩ := h.map.lt
      obtain ⟨c, hc, _⟩ := h.cells
      rw [e] at hc
      cases hc
    · intro e
      obtain ⟨es, ck, e'⟩ := h.map.lt
      rcases hrow.2 with ⟨e1, _⟩ | ⟨g', cap', cur, e1, _, e2, _⟩
      · rw [e1] at e; simp [Value.ownBlock] at e
      · rw [e1] at e
        simp [Value.ownBlock] at e
        subst e
        rw [e'] at e2
        cases e2
  · have := ownsRow_setCell_other (a := ⟨mb, 2, none⟩) hown hne8 v8
    simpa using this
  · have old : ∀ (i g' n c' : Nat), i < rs.length → rs[i]? = some (.slice (some ⟨g', 0, none⟩) n c') → S g' := fun i g' n c' hi e => by
      obtain ⟨g2, cap2, q1, q2, _⟩ := hrs.2 i _ (List.getElem?_eq_getElem (by rw [← hrs.1.1]; exact hi))
      rw [e] at q1
      cases q1
      exact q2
    have new : ∀ (i g' n c' : Nat), ¬ i < rs.length → (rs ++ [Value.slice (some ⟨g, 0, none⟩) c.length cap])[i]? = some (.slice (some ⟨g', 0, none⟩) n c') → i = rs.length ∧ g' = g := fun i g' n c' hi e => by
      rw [List.getElem?_append_right (by omega)] at e
      have := (List.getElem?_eq_some_iff.1 e).1
      simp at this
      have e0 : i - rs.length = 0 := by omega
      rw [e0] at e
      simp at e
      exact ⟨by omega, e.1.symm⟩
    intro i j g' n m c1 c2 e1 e2
    by_cases hi : i < rs.length
    · rw [List.getElem?_append_left hi] at e1
      by_cases hj : j < rs.length
      · rw [List.getElem?_append_left hj] at e2
        exact hrs.1.2 i j g' n m c1 c2 e1 e2
      · obtain ⟨_, rfl⟩ := new j g' m c2 hj e2
        exact absurd (old i g' n c1 hi e1) hgS
    · obtain ⟨e3, rfl⟩ := new i g' n c1 hi e1
      by_cases hj : j < rs.length
      · rw [List.getElem?_append_left hj] at e2
        exact absurd (old j g' m c2 hj e2) hgS
      · obtain ⟨e4, _⟩ := new j g' m c2 hj e2
        omega
  · by_cases hil : i < st.2.length
    · rw [List.getElem?_append_left hil] at hi
      obtain ⟨g', cap', q1, q2, q3⟩ := hrs.2 i c' hi
      exact ⟨g', cap', by rw [List.getElem?_append_left (by rw [hrs.1.1]; exact hil)]; exact q1, Or.inl q2, rwk q3⟩
    · rw [List.getElem?_append_right (by omega)] at hi
      have hi0 : i - st.2.length = 0 := by
        have := (List.getElem?_eq_some_iff.1 hi).1
        simp at this
        omega
      rw [hi0] at hi
      simp at hi
      subst hi
      refine ⟨g, cap, by rw [List.getElem?_append_right (by rw [hrs.1.1]; omega), hrs.1.1, hi0]; rfl, Or.inr (Or.inl rfl), rwk hg⟩
  · rcases hat with e | e
    · exact Or.inl e
    · refine Or.inr (fun k hk => ?_)
      rw [e] at hk
      cases hk
      simp

set_option maxRecDepth 100000 in
set_option maxHeartbeats 2000000 in
theorem say_in (w : World) (S : Nat → Prop) (mb ab : Nat) (ps : List (Int × Int)) (rv : Value) (st : Sc) (h : Mk S w mb ab ps rv st) (hs : st.2.length ≤ 1099511627776) (g cap : Nat) (c : List Int) (hg : Rw w g c) (hgS : ¬ S g) :
    Calls Tryz.prog 118 #[.pointer (some ⟨mb, 0, none⟩), .slice (some ⟨g, 0, none⟩) c.length cap] w fun e w' => e = .returned (.tuple #[]) ∧ ∃ S' rv', Mk S' w' mb ab ps rv' (st.1, st.2 ++ [c]) ∧ (∀ k, S' k → S k ∨ k = g ∨ w.heap.size ≤ k) ∧ (rv'.ownBlock = rv.ownBlock ∨ ∀ k, rv'.ownBlock = some k → w.heap.size ≤ k) ∧ Kept (fun k => k = mb ∨ rv.ownBlock = some k) w w' := by
  obtain ⟨rs, h1, h2, h3⟩ := h.rows
  obtain ⟨va, vc, hv⟩ := row_formM h1
  subst hv
  have c2 : w.cell? ⟨mb, 2, none⟩ = some (.slice va rs.length vc) := h.cells.cell (i := 2) (by omega)
  have f2 := h.cells.frozen 2
  obtain ⟨i0, hi0, hz0, hz1, hz2⟩ := info_parts infoInts
  have HM : Hid (_ ∧ _) := And.intro h (And.intro h2 h3)
  have HSV : Hid (_) := h.srv
  have hmb := h.cells.lt
  have hne : (Value.slice va rs.length vc).ownBlock ≠ some mb := rowIs_type h.cells (by decide) h1
  have HR : Hid (_ ∧ _) := And.intro hg hgS
  have hrl : rs.length ≤ 1099511627776 := by rw [h2.1]; exact hs
  clear h h2 h3 hg hgS
  go_enter Tryz.func118, Tryz.ntmps118
  go_wp2_with (first | (at_builtin; refine Aside.out ?_))
  delta Aside
  refine wpList_append_own_at _ rfl _ _ 116 rfl 0 39 i0 _ 1 24 Tryz.underlying116 hi0 hz0 hz1 hz2 rfl (by decide) _ _ _ rfl (h1.alloc _) ⟨_, 0, none⟩ 1 1 [.slice (some ⟨g, 0, none⟩) c.length cap] rfl rfl (cell_oneV w _ _) (by simp [Value.oneCell']) (by unfold maxLen; omega) (by omega) (by simp) ?_
  intro v8 w8 hown8 hgrow8 _ hat8
  have hb8 : w8.heap[mb]? = w.heap[mb]? := (hgrow8.block _ (by simp; omega) (fun e => hne e.symm)).trans (Below.heap_alloc w _ _ hmb)
  have d2 : w8.cell? ⟨mb, 2, none⟩ = some (.slice va rs.length vc) := (World.cell?_of_block (a := ⟨mb, 2, none⟩) hb8).trans c2
  have e2 : w8.frozen? ⟨mb, 2, none⟩ = false := (World.frozen?_of_block (a := ⟨mb, 2, none⟩) hb8).trans f2
  obtain ⟨g8, cap8, hv8⟩ := ownsRow_succ hown8
  have HF : Hid (_ ∧ _ ∧ _) := HM.out.1.said HM.out.2 HR.out.1 HR.out.2 h1 hown8 hgrow8 hat8
  subst hv8
  clear hown8 hgrow8 hat8 HM HR h1
  go_wp2_with fail
  refine ⟨rfl, .tuple #[], by simp [results, Tryz.results118], ?_⟩
  obtain ⟨m1, m2, m3⟩ := HF.out
  refine ⟨rfl, _, _, m1, fun k hk => ?_, m3, m2⟩
  rcases hk with e | e | e
  · exact Or.inl e
  · exact Or.inr (Or.inl e)
  · rcases m3 with e' | e'
    · rw [e'] at e
      exact Or.inl (HSV.out k e)
    · exact Or.inr (Or.inr (e' k e))

/-- A clause of fresh literals. -/
theorem rw_new (w : World) (c : List Int) (ty : TypeId) (hty : ty = 3) : Rw (w.alloc (.cells (c.map (fun x => Value.int .i64 x)).toArray ty)) w.heap.size c := by
  subst hty
  have hn := made_row w (c.map (fun x => Value.int .i64 x)).toArray 3
  exact ⟨_, _, by simp, hn, fun j x hj => by simp [hj]⟩

/-- say, of literals that were laid just now. -/
theorem Made.say {S : Nat → Prop} {w : World} {mb ab : Nat} {ps : List (Int × Int)} {rv : Value} {st : Sc} (h : Mk S w mb ab ps rv st) (hs : st.2.length ≤ 1099511627776) (cap : Nat) (c : List Int) :
    Calls Tryz.prog 118 #[.pointer (some ⟨mb, 0, none⟩), .slice (some ⟨w.heap.size, 0, none⟩) c.length cap] (w.alloc (.cells (c.map (fun x => Value.int .i64 x)).toArray 3)) fun e w' => e = .returned (.tuple #[]) ∧ Made S w w' mb ab ps rv (st.1, st.2 ++ [c]) := by
  have h2 : Mk S (w.alloc (.cells (c.map (fun x => Value.int .i64 x)).toArray 3)) mb ab ps rv st := h.keep (by simp) (fun k hk => Below.heap_alloc w _ k (h.lt k hk))
  refine (say_in _ S mb ab ps rv st h2 hs w.heap.size cap c (rw_new w c _ rfl) (fun hS => absurd (h.lt _ hS) (by omega))).mono ?_
  rintro e w' ⟨rfl, S', rv', m1, m2, m3, m4⟩
  refine ⟨rfl, S', rv', m1, fun k hk => ?_, m3.imp id (fun e k hk => ?_), ((Kept.refl _ w).alloc _).trans m4⟩
  · rcases m2 k hk with e | e | e
    · exact Or.inl e
    · exact Or.inr (by omega)
    · exact Or.inr (by simp at e; omega)
  · have := e k hk
    simp at this
    omega

set_option maxRecDepth 100000 in
set_option maxHeartbeats 2000000 in
theorem both_in (w : World) (S : Nat → Prop) (mb ab : Nat) (ps : List (Int × Int)) (rv : Value) (st : Sc) (h : Mk S w mb ab ps rv st) (hs : st.1 ≤ 1099511627776) (hs2 : st.2.length ≤ 1073741824) (p q : Int) (hp : p.natAbs ≤ 1099511627776) (hq : q.natAbs ≤ 1099511627776) :
    Calls Tryz.prog 158 #[.pointer (some ⟨mb, 0, none⟩), .int .i64 p, .int .i64 q] w fun e w' => e = .returned (.int .i64 ((st.1 + 1 : Nat) : Int)) ∧ Made S w w' mb ab ps rv (st.1 + 1, st.2 ++ [[-((st.1 + 1 : Nat) : Int), p], [-((st.1 + 1 : Nat) : Int), q], [((st.1 + 1 : Nat) : Int), -p, -q]]) := by
  have V := variable_in w S mb ab ps rv st h hs
  have SY : ∀ (S : Nat → Prop) (w : World) (rv : Value) (st : Sc), Mk S w mb ab ps rv st → st.2.length ≤ 1099511627776 → ∀ (cap : Nat) (c : List Int), Calls Tryz.prog 118 #[.pointer (some ⟨mb, 0, none⟩), .slice (some ⟨w.heap.size, 0, none⟩) c.length cap] (w.alloc (.cells (c.map (fun x => Value.int .i64 x)).toArray 3)) fun e w' => e = .returned (.tuple #[]) ∧ Made S w w' mb ab ps rv (st.1, st.2 ++ [c]) := fun S w rv st h hs cap c => Made.say h hs cap c
  have HSY : Hid _ := SY
  have HS : Hid (S mb ∧ mb < w.heap.size) := ⟨h.smb, h.cells.lt⟩
  have e1 : IntKind.i64.wrap (-(((st.1 + 1 : Nat) : Int))) = -((st.1 + 1 : Nat) : Int) := by rw [IntKind.wrap_i64]; omega
  have e2 : IntKind.i64.wrap (-p) = -p := by rw [IntKind.wrap_i64]; omega
  have e3 : IntKind.i64.wrap (-q) = -q := by rw [IntKind.wrap_i64]; omega
  generalize hx : ((st.1 + 1 : Nat) : Int) = x at *
  obtain ⟨n, cs⟩ := st
  simp only at *
  clear SY h hx hs
  go_enter Tryz.func158, Tryz.ntmps158
  go_wp2_with (first | (go_at_call 117; refine V.mono ?_; rintro e w1 ⟨rfl, M1, K1⟩; refine Aside.out ?_))
  delta Aside
  have A1 : MadeX S w rv S w1 rv mb ab ps (n + 1, cs) := ⟨M1, fun k hk => Or.inl hk, Or.inl rfl, K1.mono (fun _ _ e => Or.inl e)⟩
  have Y1 := HSY.out S w1 rv _ M1 (by simp; omega) 2 [-x, p]
  clear M1 K1 V
  apply_assumption
  go_wp2_with (first | (go_at_call 118; refine Y1.mono ?_; rintro e w2 ⟨rfl, M2⟩; refine Aside.out ?_))
  delta Aside
  obtain ⟨S2, rv2, X2⟩ := M2
  have A2 := A1.trans X2
  have Y2 := HSY.out S2 w2 rv2 _ X2.is (by simp; omega) 2 [-x, q]
  clear A1 X2 Y1
  apply_assumption
  go_wp2_with (first | (go_at_call 118; refine Y2.mono ?_; rintro e w3 ⟨rfl, M3⟩; refine Aside.out ?_))
  delta Aside
  obtain ⟨S3, rv3, X3⟩ := M3
  have A3 := A2.trans X3
  have Y3 := HSY.out S3 w3 rv3 _ X3.is (by simp; omega) 3 [x, -p, -q]
  clear A2 X3 Y2
  apply_assumption
  go_wp2_with (first | (go_at_call 118; refine Y3.mono ?_; rintro e w4 ⟨rfl, M4⟩))
  go_ret
  obtain ⟨S4, rv4, X4⟩ := M4
  have A4 := A3.trans X4
  simp only [List.append_assoc, List.cons_append, List.nil_append] at A4
  exact ⟨rfl, S4, rv4, A4⟩

end Go.Proofs.YtlehlgipbhfioaaGreat

namespace Go.Proofs.YtlehlgipbhfioaaGreat
open Go.RowKit Go.Maps

theorem rowIs_neC {w : World} {b b' : Nat} {t t' : TypeId} {n n' : Nat} {f f' : Nat → Value} (h : w.rowIs b t n f) (h' : w.rowIs b' t' n' f') (ht : t ≠ t') : b ≠ b' := by
  rintro rfl
  obtain ⟨c, hc, _⟩ := h
  obtain ⟨c', hc', _⟩ := h'
  rw [hc] at hc'
  injection hc' with hc'
  injection hc' with _ e
  exact ht e
theorem rowIs_map {w : World} {b b' : Nat} {t k : TypeId} {n : Nat} {f : Nat → Value} {D : DataW Unit} (h : w.rowIs b t n f) (h' : mapIs w k b' D) : b ≠ b' := by
  rintro rfl
  obtain ⟨c, hc, _⟩ := h
  obtain ⟨es, ck, n1, _⟩ := h'
  rw [hc] at n1
  cases n1
theorem ownsRow_neC {w : World} {B B' s s' n n' : Nat} {e e' : TypeId} {v v' : Value} {xs xs' : List Value} (h : w.ownsRow B e s v n xs) (h' : w.ownsRow B' e' s' v' n' xs') (he : e ≠ e') {k : Nat} (hk : v.ownBlock = some k) : v'.ownBlock ≠ some k := by
  intro hk'
  rcases h.2 with ⟨r, _⟩ | ⟨b, cap, cur, r, _, hb, _⟩
  · rw [r] at hk; simp [Value.ownBlock] at hk
  · rcases h'.2 with ⟨r', _⟩ | ⟨b', cap', cur', r', _, hb', _⟩
    · rw [r'] at hk'; simp [Value.ownBlock] at hk'
    · rw [r] at hk
      rw [r'] at hk'
      simp [Value.ownBlock] at hk hk'
      subst hk
      subst hk'
      rw [hb] at hb'
      injection hb' with hb'
      injection hb' with _ e
      exact he e

/-- No two of its parts share a block. -/
structure ApartZ (z : Zs) : Prop where
  kp : z.pk ≠ z.ps
  kn : z.pk ≠ z.nb
  kj : z.jv.ownBlock ≠ some z.pk
  kt : z.pk ≠ z.tb
  ku : z.pk ≠ z.ub
  km : z.pk ≠ z.mb
  kb : z.bv.ownBlock ≠ some z.pk
  pt : z.ps ≠ z.tb
  nt : z.nb ≠ z.tb
  jt : z.jv.ownBlock ≠ some z.tb
  ut : z.ub ≠ z.tb
  mt : z.mb ≠ z.tb
  bt : z.bv.ownBlock ≠ some z.tb
  pu : z.ps ≠ z.ub
  nu : z.nb ≠ z.ub
  ju : z.jv.ownBlock ≠ some z.ub
  pm : z.ps ≠ z.mb
  nm : z.nb ≠ z.mb
  jm : z.jv.ownBlock ≠ some z.mb
  pb : z.bv.ownBlock ≠ some z.ps
  nb : z.bv.ownBlock ≠ some z.nb
  jb : ∀ k, z.jv.ownBlock = some k → z.bv.ownBlock ≠ some k
  um : z.ub ≠ z.mb
  ub : z.bv.ownBlock ≠ some z.ub
  mb : z.bv.ownBlock ≠ some z.mb

theorem Cz.apart {w : World} {base : Nat} {l : List Tm} {z : Zs} (h : Cz w base l z) : ApartZ z := by
  obtain ⟨D, d1, _⟩ := h.known
  have L := h.sets.lies
  exact ⟨rowIs_neC h.cls L.sets (by decide), rowIs_neC h.cls L.nodes (by decide), rowIs_type h.cls (by decide) L.joins, rowIs_neC h.cls h.terms (by decide), rowIs_neC h.cls h.uses (by decide), rowIs_map h.cls d1, rowIs_type h.cls (by decide) h.back,
    rowIs_neC L.sets h.terms (by decide), rowIs_neC L.nodes h.terms (by decide), rowIs_type h.terms (by decide) L.joins, rowIs_neC h.uses h.terms (by decide), (rowIs_map h.terms d1).symm, rowIs_type h.terms (by decide) h.back,
    rowIs_neC L.sets h.uses (by decide), rowIs_neC L.nodes h.uses (by decide), rowIs_type h.uses (by decide) L.joins, rowIs_map L.sets d1, rowIs_map L.nodes d1, mapIs_type d1 L.joins, rowIs_type L.sets (by decide) h.back, rowIs_type L.nodes (by decide) h.back,
    fun k hk => ownsRow_neC L.joins h.back (by decide) hk, rowIs_map h.uses d1, rowIs_type h.uses (by decide) h.back, mapIs_type d1 h.back⟩

theorem Cz.st_lt {w : World} {base : Nat} {l : List Tm} {z : Zs} (h : Cz w base l z) {x : Nat × Obj} (hx : x ∈ z.st) : x.1 < w.heap.size := (Array.getElem?_eq_some_iff.1 (h.sat x hx)).1

/-- How the parts come to change. -/
structure Grows (w : World) (z z' : Zs) : Prop where
  pk : z'.pk = z.pk
  foot : ∀ k, z'.Foot k → z.Foot k ∨ w.heap.size ≤ k
  tb : z'.tb = z.tb
  st : ∀ x ∈ z'.st, x ∈ z.st ∨ w.heap.size ≤ x.1
theorem Grows.refl (w : World) (z : Zs) : Grows w z z := ⟨rfl, fun _ h => .inl h, rfl, fun _ h => .inl h⟩
theorem Grows.trans {w w' : World} {a b c : Zs} (h : Grows w a b) (k : Grows w' b c) (hs : w.heap.size ≤ w'.heap.size) : Grows w a c :=
  ⟨k.pk.trans h.pk, fun i hi => (k.foot i hi).elim (h.foot i) (fun x => .inr (Nat.le_trans hs x)), k.tb.trans h.tb, fun x hx => (k.st x hx).elim (h.st x) (fun x => .inr (Nat.le_trans hs x))⟩
theorem Grows.all {w : World} {z z' : Zs} (h : Grows w z z') {k : Nat} (hk : z'.All k) : z.All k ∨ w.heap.size ≤ k := by
  rcases hk with e | e | ⟨o, e⟩
  · exact (h.foot k e).imp .inl id
  · exact .inl (.inr (.inl (e.trans h.tb)))
  · exact (h.st _ e).imp (fun x => .inr (.inr ⟨o, x⟩)) id

/-- One more block that never changes. -/
theorem Cz.addStat {w : World} {base : Nat} {l : List Tm} {z : Zs} (h : Cz w base l z) (x : Nat × Obj) (hx : w.heap[x.1]? = some x.2) (hb : base ≤ x.1) (hf : ¬ z.Foot x.1) : Cz w base l { z with st := z.st ++ [x] } := by
  refine ⟨h.cls, h.sets, h.terms, h.uses, h.known, h.back, ?_, ?_, fun i t ht => (h.argsAt i t ht).mono (fun y hy => List.mem_append_left _ hy), fun i hi => (h.usesAt i hi).mono (fun y hy => List.mem_append_left _ hy), h.bd, h.oks, h.len, h.bp, h.bt, h.bu, h.bm⟩
  · intro y hy
    rcases List.mem_append.1 hy with hy | hy
    · exact h.sat y hy
    · simp at hy; subst hy; exact hx
  · intro y hy
    rcases List.mem_append.1 hy with hy | hy
    · exact h.far y hy
    · simp at hy; subst hy; exact ⟨hb, hf⟩

/-- A signature becomes known. -/
theorem Cz.store {w : World} {base : Nat} {l : List Tm} {z : Zs} (h : Cz w base l z) {s : Tm} (hs : Sk s) {n : Nat} (hn : n < 100000) (hms : z.ms < 1000000) :
    ∃ w', (Instr.mapUpdate 68 (.map (some z.mb)) (sigV s) (.int .i64 (n : Int))).run Tryz.prog w = .ok () w' ∧ Cz w' base l { z with kn := fun u => if u = s then some n else z.kn u, ms := z.ms + 1 } ∧ Kept1 z.mb w w' := by
  obtain ⟨D, d1, d2, d3⟩ := h.known
  obtain ⟨w', hr, ho, hturn⟩ := World.ownsMap.store d1 gLaw Tryz.underlying68 (by unfold maxLen; omega) (gkey_of hs.ok) (plainElem_int Tryz.underlying3 (wf64 hn))
  have K : Kept1 z.mb w w' := Kept1.of_grown hturn.grown
  have A := h.apart
  have tidy := World.ownsMap.tidy d1 gLaw
  refine ⟨w', hr, ⟨h.cls.of_block (K.block _ h.cls.lt A.km), h.sets.other K A.pm A.nm (fun k hk e => A.jm (by rw [hk, e])), h.terms.of_block (K.block _ h.terms.lt A.mt.symm), h.uses.of_block (K.block _ h.uses.lt A.um), ⟨_, mapIs_of ho, ?_, ?_⟩,
    ownsRow_blockC h.back (fun k hk => K.block k (h.back.lt k hk).2 (fun e => A.mb (by rw [hk, e]))), fun x hx => (K.block x.1 (h.st_lt hx) (fun e => (h.far x hx).2 (.inr (.inr (.inr (.inl e)))))).trans (h.sat x hx), h.far, h.argsAt, h.usesAt, h.bd, h.oks, h.len, h.bp, h.bt, h.bu, h.bm⟩, K⟩
  · rw [size_put tidy]
    show _ ≤ z.ms + 1
    split <;> omega
  · intro u hu
    show Says _ (gkey u) (if u = s then some n else z.kn u)
    by_cases e : u = s
    · subst e
      rw [if_pos rfl]
      obtain ⟨kk, e, hk⟩ := gkey_lit hu.ok
      rw [e]
      exact Says.put_same tidy.isMap hk n
    · rw [if_neg e]
      exact (d3 u hu).put_other (fun x => e (gkey_inj hu hs x)) _

theorem Cz.look {w : World} {base : Nat} {l : List Tm} {z : Zs} (h : Cz w base l z) {s : Tm} (hs : Sk s) :
    (Instr.lookup 68 (.map (some z.mb)) (sigV s) true).run Tryz.prog w = .ok (.tuple #[.int .i64 (((z.kn s).getD 0 : Nat) : Int), .bool (z.kn s).isSome]) w := by
  obtain ⟨D, d1, d2, d3⟩ := h.known
  exact (d3 s hs).look d1 gLaw Tryz.underlying68 (gkey_of hs.ok)

/-- A step is kept. -/
theorem Cz.push {w wa w1 : World} {base : Nat} {l : List Tm} {z : Zs} (h : Cz w base l z) (K0 : Kept0 w wa) (f v' : Value) (hown : w1.ownsRow base 1 1 v' (z.bs.length + 1) (z.bs ++ [f])) (hgrow : wa.grownBy w1 z.bv.ownBlock)
    (hloc : v'.ownBlock = z.bv.ownBlock ∨ ∀ k, v'.ownBlock = some k → wa.heap.size ≤ k) :
    Cz (w1.setCell ⟨z.pk, 4, none⟩ v') base l { z with bv := v', bs := z.bs ++ [f] } ∧ Kept z.Foot w (w1.setCell ⟨z.pk, 4, none⟩ v') ∧ Grows w z { z with bv := v', bs := z.bs ++ [f] } ∧ w1.cell? ⟨z.pk, 4, none⟩ = some z.bv ∧ w1.frozen? ⟨z.pk, 4, none⟩ = false ∧ Kept (fun k => z.bv.ownBlock = some k) w w1 := by
  have K1 : Kept (fun k => z.bv.ownBlock = some k) w w1 := Kept.grown (Kept.mono K0 (fun _ _ e => e.elim)) hgrow (fun _ e => e)
  have K2 : Kept (fun k => k = z.pk ∨ z.bv.ownBlock = some k) w (w1.setCell ⟨z.pk, 4, none⟩ v') := Kept.setCell (p := ⟨z.pk, 4, none⟩) (Kept.mono K1 (fun _ _ e => .inr e)) (.inl rfl) _
  have A := h.apart
  have hp : w1.rowIs z.pk 71 5 (clsC z l.length) := h.cls.of_block (K1.block _ h.cls.lt A.kb)
  have np := rowIs_type hp (by decide) hown
  obtain ⟨D, d1, d2, d3⟩ := h.known
  have hfoot : ∀ k, Zs.Foot { z with bv := v', bs := z.bs ++ [f] } k → z.Foot k ∨ w.heap.size ≤ k := by
    rintro k (e | e | e | e | e)
    · exact .inl (.inl e)
    · exact .inl (.inr (.inl e))
    · exact .inl (.inr (.inr (.inl e)))
    · exact .inl (.inr (.inr (.inr (.inl e))))
    · rcases hloc with e2 | e2
      · exact .inl (.inr (.inr (.inr (.inr (e2 ▸ e)))))
      · exact .inr (Nat.le_trans K0.size (e2 k e))
  refine ⟨⟨(hp.set 4 v').congr ?_, h.sets.other K2 ?_ ?_ ?_, h.terms.of_block (K2.block _ h.terms.lt ?_), h.uses.of_block (K2.block _ h.uses.lt ?_), ⟨D, mapIs_block d1 (K2.block _ (World.ownsMap.lt d1) ?_), d2, d3⟩, ?_, ?_, ?_, h.argsAt, h.usesAt, h.bd, h.oks, h.len, h.bp, h.bt, h.bu, h.bm⟩, ?_, ⟨rfl, hfoot, rfl, fun _ hx => .inl hx⟩, hp.cell (i := 4) (by omega), hp.frozen 4, K1⟩
  · intro i hi
    rcases (by omega : i = 0 ∨ i = 1 ∨ i = 2 ∨ i = 3 ∨ i = 4) with rfl | rfl | rfl | rfl | rfl <;> simp [clsC]
  · rintro (e | e)
    · exact A.kp e.symm
    · exact A.pb e
  · rintro (e | e)
    · exact A.kn e.symm
    · exact A.nb e
  · rintro k hk (e | e)
    · exact A.kj (by rw [hk, e])
    · exact A.jb k hk e
  · rintro (e | e)
    · exact A.kt e.symm
    · exact A.bt e
  · rintro (e | e)
    · exact A.ku e.symm
    · exact A.ub e
  · rintro (e | e)
    · exact A.km e.symm
    · exact A.mb e
  · simpa using ownsRow_setCell_other hown np _
  · intro x hx
    refine (K2.block x.1 (h.st_lt hx) ?_).trans (h.sat x hx)
    rintro (e | e)
    · exact (h.far x hx).2 (.inl e)
    · exact (h.far x hx).2 (.inr (.inr (.inr (.inr e))))
  · intro x hx
    refine ⟨(h.far x hx).1, fun hk => ?_⟩
    rcases hfoot _ hk with e | e
    · exact (h.far x hx).2 e
    · have := h.st_lt hx; omega
  · refine Kept.mono K2 ?_
    rintro k _ (e | e)
    · exact .inl e
    · exact .inr (.inr (.inr (.inr e)))

theorem row_form' {w : World} {base : Nat} {e : TypeId} {size : Nat} {v : Value} {n : Nat} {xs : List Value} (h : w.ownsRow base e size v n xs) : ∃ a c, v = .slice a n c := by
  rcases h.2 with ⟨rfl, h0⟩ | ⟨b, cap, cur, rfl, _⟩
  · rw [h0]; exact ⟨none, 0, rfl⟩
  · exact ⟨_, cap, rfl⟩
theorem rowIs_obj {w : World} {b : Nat} {t : TypeId} {n : Nat} {f : Nat → Value} (h : w.rowIs b t n f) (C : Array Value) (hs : C.size = n) (hC : ∀ i, i < n → C[i]? = some (f i)) : w.heap[b]? = some (.cells C t) := by
  obtain ⟨c, h1, h2, h3⟩ := h
  have : c = C := by
    apply Array.ext_getElem?
    intro i
    by_cases hi : i < n
    · rw [h3 i hi, hC i hi]
    · rw [Array.getElem?_eq_none (by omega), Array.getElem?_eq_none (by omega)]
  rw [h1, this]
theorem one_newD (w : World) (m : Nat) (x : Value) (t : TypeId) : ∀ j u, [x][j]? = some u → ((w.drewN m).alloc (.cells #[x] t)).cell? ((⟨w.heap.size, 0, none⟩ : Addr).add j) = some u := by
  intro j u hj
  have e : ∀ k, ((w.drewN m).alloc (.cells #[x] t)).cell? ⟨w.heap.size, k, none⟩ = #[x][k]? := fun k => World.cell?_alloc_at (w := w.drewN m) _ t _ k rfl
  match j, hj with
  | 0, hj => simp at hj; subst hj; rw [show (⟨w.heap.size, 0, none⟩ : Addr).add 0 = ⟨w.heap.size, 0, none⟩ from by simp [Addr.add], e]; rfl
  | j + 1, hj => simp at hj

theorem infoStepC : (Tryz.prog.info? 1).map (fun i => (i.zero, i.size, i.bytes)) = some (some .nilFunc, 1, 8) := by kernel_rfl

end Go.Proofs.YtlehlgipbhfioaaGreat

namespace Go.Proofs.YtlehlgipbhfioaaGreat
open Go.RowKit Go.Maps

theorem infoIntK : (Tryz.prog.info? 3).map (fun i => (i.zero, i.size, i.bytes)) = some (some (.int .i64 0), 1, 8) := by kernel_rfl
def natC (l : List Nat) : List Value := l.map fun x : Nat => Value.int .i64 (x : Int)
theorem natC_len (l : List Nat) : (natC l).length = l.length := by simp [natC]
theorem natC_app (a b : List Nat) : natC a ++ natC b = natC (a ++ b) := by simp [natC]
theorem natC_get (l : List Nat) (j : Nat) : (natC l)[j]? = (l[j]?).map (fun x : Nat => Value.int .i64 (x : Int)) := by simp [natC]
theorem natC_one (l : List Nat) : ∀ u ∈ natC l, u.oneCell' = true := by
  intro u hu
  simp [natC] at hu
  obtain ⟨a, _, rfl⟩ := hu
  rfl

/-- A row of one's own is a block that need not change any more. -/
theorem UseIs.own {w : World} {base : Nat} {v : Value} {xs : List Nat} (h : w.ownsRow base 3 1 v xs.length (natC xs)) (hx : xs ≠ []) :
    ∃ x : Nat × Obj, UseIs [x] v xs ∧ w.heap[x.1]? = some x.2 ∧ v.ownBlock = some x.1 := by
  rcases h.2 with ⟨_, h0⟩ | ⟨g, cap, cur, rfl, hbg, hg, hnc, hcm, hcs, htake⟩
  · exact absurd (List.eq_nil_of_length_eq_zero h0) hx
  · refine ⟨(g, .cells cur 3 (0, 0)), ⟨some ⟨g, 0, none⟩, cap, rfl, hnc, .inr ⟨g, 0, cur, (0, 0), rfl, by simp, fun j x hj => ?_⟩⟩, hg, rfl⟩
    have hlt := (List.getElem?_eq_some_iff.1 hj).1
    have h1 : (natC xs)[j]? = some (.int .i64 (x : Int)) := by rw [natC_get, hj]; rfl
    rw [← htake, List.getElem?_take_of_lt (by omega)] at h1
    rw [Nat.zero_add]
    simpa using h1

theorem UseIs.cells {st : List (Nat × Obj)} {v : Value} {xs : List Nat} (h : UseIs st v xs) {w : World} (hw : Sat st w) (hx : xs ≠ []) :
    ∃ ad cap, v = .slice (some ad) xs.length cap ∧ xs.length ≤ cap ∧ ∀ j u, (natC xs)[j]? = some u → w.cell? (ad.add j) = some u := by
  obtain ⟨x, xs', rfl⟩ := List.exists_cons_of_ne_nil hx
  obtain ⟨b, off, cap, e, hcap, hc⟩ := h.cell hw (j := 0) (x := x) rfl
  refine ⟨⟨b, off, none⟩, cap, e, hcap, fun j u hj => ?_⟩
  rw [natC_get] at hj
  cases e2 : (x :: xs')[j]? with
  | none => rw [e2] at hj; cases hj
  | some y =>
    rw [e2] at hj
    cases hj
    have := hc j y e2
    simp only [Addr.add]
    by_cases hj0 : j = 0
    · subst hj0; simpa using this
    · simpa [hj0] using this

set_option maxHeartbeats 1000000 in
set_option maxRecDepth 100000 in
theorem together_in (w : World) (st : List (Nat × Obj)) (hw : Sat st w) (v1 v2 : Value) (xs ys : List Nat) (h1 : UseIs st v1 xs) (h2 : UseIs st v2 ys) (hl : xs.length + ys.length ≤ 1000000) :
    Calls Tryz.prog 72 #[v1, v2] w fun e w' => ∃ v' st2, e = .returned v' ∧ Kept0 w w' ∧ UseIs (st ++ st2) v' (xs ++ ys) ∧ Sat st2 w' ∧ ∀ x ∈ st2, w.heap.size ≤ x.1 := by
  by_cases hx : xs = []
  · subst hx
    obtain ⟨a1, c1, e1⟩ := h1.form
    subst e1
    have h2' : UseIs (st ++ []) v2 ([] ++ ys) := by simpa using h2
    obtain ⟨a2, c2, e2⟩ := h2.form
    subst e2
    have H2 : Hid _ := h2'
    clear h1 h2 h2' hw
    go_enter Tryz.func72, Tryz.ntmps72
    go_wp2_with fail
    go_ret
    exact ⟨_, [], rfl, Kept.refl _ w, H2.out, fun x hx => by simp at hx, fun x hx => by simp at hx⟩
  · have lx : 0 < xs.length := List.length_pos_iff.2 hx
    have dx : ((xs.length : Int) == 0) = false := beq_eq_false_iff_ne.2 (by omega)
    by_cases hy : ys = []
    · subst hy
      have h1' : UseIs (st ++ []) v1 (xs ++ []) := by simpa using h1
      obtain ⟨a1, c1, e1⟩ := h1.form
      subst e1
      obtain ⟨a2, c2, e2⟩ := h2.form
      subst e2
      have H1 : Hid _ := h1'
      clear h1 h2 h1' hw
      go_enter Tryz.func72, Tryz.ntmps72
      go_wp2_with fail
      go_ret
      exact ⟨_, [], rfl, Kept.refl _ w, H1.out, fun x hx => by simp at hx, fun x hx => by simp at hx⟩
    · have ly : 0 < ys.length := List.length_pos_iff.2 hy
      have dy : ((ys.length : Int) == 0) = false := beq_eq_false_iff_ne.2 (by omega)
      obtain ⟨ad1, c1, e1, p1, g1⟩ := h1.cells hw hx
      obtain ⟨ad2, c2, e2, p2, g2⟩ := h2.cells hw hy
      subst e1 e2
      obtain ⟨i0, hi0, hz0, hz1, hz2⟩ := info_parts infoIntK
      go_enter Tryz.func72, Tryz.ntmps72
      go_wp2_with (at_builtin; refine wpList_append_grows w rfl _ _ 110 rfl 3 i0 _ 1 8 Tryz.underlying110 hi0 hz0 hz1 hz2 rfl (by decide) (some ad1) xs.length xs.length (natC xs) rfl (by simp) (by simp [natC_len]) (fun b hb => by cases hb; exact g1) ad2 ys.length c2 (natC ys) rfl (by simp [natC_len]) g2 (natC_one _) (by omega) (by unfold maxLen; omega) (by omega) ?_; intro v' w' r1 r2)
      have K : Kept0 w w' := Kept.grown (Kept.refl _ w) r2 (fun _ e => by cases e)
      rw [natC_app] at r1
      have r1' : w'.ownsRow w.heap.size 3 1 v' (xs ++ ys).length (natC (xs ++ ys)) := by rw [List.length_append]; exact r1
      obtain ⟨x, u1, u2, u3⟩ := UseIs.own r1' (by simp [hx])
      go_ret
      refine ⟨v', [x], rfl, K, u1.mono (fun y hy => List.mem_append_right _ hy), fun y hy => ?_, fun y hy => ?_⟩
      · simp at hy; subst hy; exact u2
      · simp at hy; subst hy; exact (r1'.lt _ u3).1

end Go.Proofs.YtlehlgipbhfioaaGreat

namespace Go.Proofs.YtlehlgipbhfioaaGreat
open Go.RowKit Go.Sort

theorem natC_map (l : List Nat) : natC l = (l.map fun x : Nat => (x : Int)).map (Value.int .i64) := by simp [natC]
theorem sortedN_is (l T : List Nat) (hp : T.Perm l) (hs : T.Pairwise (· < ·)) : ((l.map fun x : Nat => (x : Int)).mergeSort fun x y => decide (x ≤ y)) = T.map fun x : Nat => (x : Int) := by
  refine List.Perm.eq_of_pairwise (le := fun a b : Int => decide (a ≤ b) = true) (fun a b _ _ h1 h2 => ?_) (List.pairwise_mergeSort (fun a b c h1 h2 => ?_) (fun a b => ?_) _) ?_ ((List.mergeSort_perm _ _).trans (hp.symm.map _))
  · simp only [decide_eq_true_eq] at h1 h2; omega
  · simp only [decide_eq_true_eq] at h1 h2 ⊢; omega
  · simp only [Bool.or_eq_true, decide_eq_true_eq]; omega
  · refine List.pairwise_map.2 (hs.imp ?_)
    intro a b hab
    simp only [decide_eq_true_eq]; omega
theorem Sort_nat (w : World) (base : Nat) (v : Value) (l T : List Nat) (k : Nat) (hk : l.length = k + 1) (hsm : l.length ≤ 100000) (ho : w.ownsRow base 3 1 v l.length (natC l)) (hp : T.Perm l) (hs : T.Pairwise (· < ·)) :
    Calls Tryz.prog 97 #[v] w fun e w' => e = .returned (.tuple #[]) ∧ w'.ownsRow base 3 1 v T.length (natC T) ∧ w.grownBy w' v.ownBlock := by
  have hlen : T.length = l.length := hp.length_eq
  rcases ho.2 with ⟨_, h0⟩ | ⟨g, cap, cur, rfl, hb, hg, h1, h2, h3, h4⟩
  · omega
  · rw [natC_map, Nat.mul_one] at h4
    have hH : Holds (Value.int .i64) w g 0 (l.map fun x : Nat => (x : Int)).toArray := holds_of_blockI hg (by rw [List.length_map]; exact h4)
    have hc := Tryz.slices_Sort_int g 0 cap (l.map fun x : Nat => (x : Int)) w hH (Array.getElem?_eq_some_iff.1 hg).1 (by rw [List.length_map]; omega)
    rw [sortedN_is l T hp hs, List.length_map] at hc
    refine hc.mono ?_
    rintro e w' ⟨he, n, os, rfl⟩
    refine ⟨he, ?_, grownBy_sortedI _⟩
    rw [natC_map, hlen]
    have := ownsRow_sortedI (n := n) (os := os) (ss := l.map fun x : Nat => (x : Int)) (ts := T.map fun x : Nat => (x : Int)) (by simp [hlen]) hb hg (by simpa using h1) h2 h3
    simpa using this
end Go.Proofs.YtlehlgipbhfioaaGreat

namespace Go.Proofs.YtlehlgipbhfioaaGreat
open Go.RowKit Go.Maps

/-- 'firsts[n]' without ok. -/
theorem Says.look1 {w : World} {k t : TypeId} {b : Nat} {D : DataW Unit} {key : Value} {kl : Lit} {o : Option Nat} (h : mapIs w k b D) (S : Says D kl o) (K : Keyed Tryz.prog k) (ht : Tryz.prog.underlying t = some (.map k 3)) (hkey : keyOf Tryz.prog k key = some kl) :
    (Instr.lookup t (.map (some b)) key false).run Tryz.prog w = .ok (.int .i64 ((o.getD 0 : Nat) : Int)) w := by
  obtain ⟨c, hrun, hat, _⟩ := World.ownsMap.lookup_int h K ht Tryz.underlying3 (zeroI w) hkey
  rw [S.2] at hat
  simp at hat
  rw [hrun, hat]

theorem Bq.dropN {w : World} {base p : Nat} {ev : Value} {nb fb : Nat} {l : List Tm} {Dn Df : DataW Unit} (h : Bq w base p ev nb fb l Dn Df) {t : Tm} (ht : t.ok) (ty : TypeId) :
    ∃ w', (Builtin.delete_ #[80, 152] ty #[.map (some nb), entryV t]).run Tryz.prog w = .ok (.tuple #[]) w' ∧ Bq w' base p ev nb fb l (Dn.del (ekey t)) Df ∧ Kept1 nb w w' := by
  obtain ⟨w', hr, ho, hturn⟩ := World.ownsMap.drop h.nums tLaw Tryz.underlying80 (ekey_of ht) ty
  have g := hturn.grown
  exact ⟨w', hr, ⟨h.bank.of_block (g.block p h.bank.lt (by simpa using h.pn)), h.rows.kept g (Or.inr h.en), mapIs_of ho, World.ownsMap.kept h.fsts g (by simpa using Ne.symm h.nf), h.pn, h.pf, h.nf, h.ep, h.en, h.ef, h.bp, h.bn, h.bf⟩, Kept1.of_grown g⟩

theorem Bq.dropF {w : World} {base p : Nat} {ev : Value} {nb fb : Nat} {l : List Tm} {Dn Df : DataW Unit} (h : Bq w base p ev nb fb l Dn Df) {s : ByteArray} (ht : s.size ≤ 6) (ty : TypeId) :
    ∃ w', (Builtin.delete_ #[81, 9] ty #[.map (some fb), .string s]).run Tryz.prog w = .ok (.tuple #[]) w' ∧ Bq w' base p ev nb fb l Dn (Df.del (skey s)) ∧ Kept1 fb w w' := by
  obtain ⟨w', hr, ho, hturn⟩ := World.ownsMap.drop h.fsts sLaw Tryz.underlying81 (skey_of ht) ty
  have g := hturn.grown
  exact ⟨w', hr, ⟨h.bank.of_block (g.block p h.bank.lt (by simpa using h.pf)), h.rows.kept g (Or.inr h.ef), World.ownsMap.kept h.nums g (by simpa using h.nf), mapIs_of ho, h.pn, h.pf, h.nf, h.ep, h.en, h.ef, h.bp, h.bn, h.bf⟩, Kept1.of_grown g⟩

theorem Bq.at {w : World} {base p : Nat} {ev : Value} {nb fb : Nat} {l : List Tm} {Dn Df : DataW Unit} (h : Bq w base p ev nb fb l Dn Df) {i : Nat} {t : Tm} (hi : l[i]? = some t) :
    ∃ g cap, ev = .slice (some ⟨g, 0, none⟩) l.length cap ∧ ∀ j u, (entryL t)[j]? = some u → w.cell? ⟨g, i * 6 + j, none⟩ = some u := by
  have hlt : i < l.length := (List.getElem?_eq_some_iff.1 hi).1
  rcases h.rows.2 with ⟨e, h0⟩ | ⟨b, cap, cur, e, _⟩
  · omega
  · refine ⟨b, cap, e, fun j u hj => ?_⟩
    have hj6 : j < 6 := by have := (List.getElem?_eq_some_iff.1 hj).1; simpa [entryL] using this
    have := h.rows.cells (g := b) (by rw [e]; rfl) (i * 6 + j) u (by rw [flat_getElem l i j hj6, hi]; exact hj)
    simp [Addr.add] at this
    split at this
    · next e0 => rw [e0.1, e0.2]; exact this
    · exact this

theorem Bq.grown {w w' : World} {base p : Nat} {ev : Value} {nb fb : Nat} {l : List Tm} {Dn Df : DataW Unit} {row : Option Nat} (h : Bq w base p ev nb fb l Dn Df) (K : w.grownBy w' row) (hp : some p ≠ row) (hn : some nb ≠ row) (hf : some fb ≠ row) (he : row = none ∨ ev.ownBlock ≠ row) : Bq w' base p ev nb fb l Dn Df :=
  ⟨h.bank.of_block (K.block p h.bank.lt hp), h.rows.kept K (he.elim (fun e => e ▸ Decidable.em (ev.ownBlock = none)) Or.inr), World.ownsMap.kept h.nums K hn, World.ownsMap.kept h.fsts K hf, h.pn, h.pf, h.nf, h.ep, h.en, h.ef, h.bp, h.bn, h.bf⟩
theorem Bq.kept0 {w w' : World} {base p : Nat} {ev : Value} {nb fb : Nat} {l : List Tm} {Dn Df : DataW Unit} (h : Bq w base p ev nb fb l Dn Df) (K : Kept0 w w') : Bq w' base p ev nb fb l Dn Df :=
  h.grown K.grownBy (by simp) (by simp) (by simp) (Or.inl rfl)

theorem Kept.setCells {S : Nat → Prop} {a : World} {g : Nat} (hg : S g) : ∀ (vs : List Value) (o : Nat) (w : World), Kept S a w → Kept S a (w.setCells g o vs)
  | [], _, _, h => h
  | v :: vs, o, _, h => Kept.setCells hg vs (o + 1) _ (Kept.setCell (p := ⟨g, o, none⟩) h hg v)

theorem flat_take (l r : List Tm) : ((l ++ r).flatMap entryL).take (l.length * 6) = l.flatMap entryL := by
  have hl : (l.flatMap entryL).length = l.length * 6 := by
    induction l with
    | nil => rfl
    | cons t l ih => rw [List.flatMap_cons, List.length_append, ih]; simp [entryL]; omega
  rw [List.flatMap_append, ← hl, List.take_left]

/-- The row is cut behind l. -/
theorem Bq.cut {w : World} {base p g ec : Nat} {nb fb : Nat} {l r : List Tm} {Dn Df : DataW Unit} (h : Bq w base p (.slice (some ⟨g, 0, none⟩) (l ++ r).length ec) nb fb (l ++ r) Dn Df) (vs : List Value) :
    Bq ((w.setCells g (l.length * 6) vs).setCell ⟨p, 0, none⟩ (.slice (some ⟨g, 0, none⟩) l.length ec)) base p (.slice (some ⟨g, 0, none⟩) l.length ec) nb fb l Dn Df ∧
      Kept (BFoot p (.slice (some ⟨g, 0, none⟩) (l ++ r).length ec) nb fb) w ((w.setCells g (l.length * 6) vs).setCell ⟨p, 0, none⟩ (.slice (some ⟨g, 0, none⟩) l.length ec)) ∧
      (w.setCells g (l.length * 6) vs).cell? ⟨p, 0, none⟩ = some (.slice (some ⟨g, 0, none⟩) (l ++ r).length ec) ∧ (w.setCells g (l.length * 6) vs).frozen? ⟨p, 0, none⟩ = false := by
  obtain ⟨R0, hle⟩ := RowTo.of h.rows (k := l.length) (by simp)
  rw [flat_take] at R0
  have R1 := RowTo.sets vs (l.length * 6) w R0 (Nat.le_refl _)
  have hgp : p ≠ g := fun e => h.ep (by rw [e]; rfl)
  have hgn : nb ≠ g := fun e => h.en (by rw [e]; rfl)
  have hgf : fb ≠ g := fun e => h.ef (by rw [e]; rfl)
  have K1 : Kept1 g w (w.setCells g (l.length * 6) vs) := Kept.setCells (S := fun k => k = g) rfl vs _ w (Kept.refl _ w)
  have hb : (w.setCells g (l.length * 6) vs).rowIs p 84 3 (bankC (.slice (some ⟨g, 0, none⟩) (l ++ r).length ec) nb fb) := h.bank.of_block (K1.block p h.bank.lt hgp)
  have n1 : mapIs (w.setCells g (l.length * 6) vs) 152 nb Dn := World.ownsMap.kept h.nums K1.grownBy (by simpa using hgn)
  have f1 : mapIs (w.setCells g (l.length * 6) vs) 9 fb Df := World.ownsMap.kept h.fsts K1.grownBy (by simpa using hgf)
  have r1 := R1.owns (by simp at hle; omega)
  refine ⟨⟨(hb.set 0 _).congr ?_, ownsRow_setCell_other (a := ⟨p, 0, none⟩) r1 h.ep _, World.ownsMap.setCell n1 (Ne.symm h.pn) _, World.ownsMap.setCell f1 (Ne.symm h.pf) _, h.pn, h.pf, h.nf, h.ep, h.en, h.ef, h.bp, h.bn, h.bf⟩, ?_, hb.cell (i := 0) (by omega), hb.frozen 0⟩
  · intro i hi
    rcases (by omega : i = 0 ∨ i = 1 ∨ i = 2) with rfl | rfl | rfl <;> simp [bankC]
  · exact Kept.setCell (S := BFoot p (.slice (some ⟨g, 0, none⟩) (l ++ r).length ec) nb fb) (p := ⟨p, 0, none⟩) (Kept.mono K1 (fun k _ x => Or.inr (Or.inr (Or.inr (by rw [x]; rfl))))) (Or.inl rfl) _

theorem Bq.reset {w : World} {base p : Nat} {ev : Value} {nb fb : Nat} {l : List Tm} {Dn Df : DataW Unit} (h : Bq w base p ev nb fb l Dn Df) : Bq (w.setCell ⟨p, 0, none⟩ ev) base p ev nb fb l Dn Df := by
  refine ⟨(h.bank.set 0 ev).congr ?_, ownsRow_setCell_other (a := ⟨p, 0, none⟩) h.rows h.ep _, World.ownsMap.setCell h.nums (Ne.symm h.pn) _, World.ownsMap.setCell h.fsts (Ne.symm h.pf) _, h.pn, h.pf, h.nf, h.ep, h.en, h.ef, h.bp, h.bn, h.bf⟩
  intro i hi
  rcases (by omega : i = 0 ∨ i = 1 ∨ i = 2) with rfl | rfl | rfl <;> simp [bankC]

theorem RowTo.row {w : World} {base g cap k : Nat} {xs : List Value} (h : RowTo w base g cap k xs) : ∃ f, w.rowIs g 152 (cap * 6) f := by
  obtain ⟨cur, _, h2, _, h4, _⟩ := h
  refine ⟨fun i => cur[i]?.getD undef, cur, h2, h4, ?_⟩
  intro i hi
  have hc : i < cur.size := by omega
  simp [Array.getElem?_eq_getElem hc]

theorem zeros_one (n : Nat) : ∀ v ∈ (Builtin.zeroCells (Value.agg #[.string ⟨#[]⟩, .int .i64 0, .int .i64 0, .int .i64 0, .int .i64 0, .int .i64 0]).cells n).toList, v.oneCell' = true := by
  intro v hv
  simp [Builtin.zeroCells, Value.cells] at hv
  obtain ⟨i, _, rfl⟩ := hv
  rcases (by omega : i % 6 = 0 ∨ i % 6 = 1 ∨ i % 6 = 2 ∨ i % 6 = 3 ∨ i % 6 = 4 ∨ i % 6 = 5) with e | e | e | e | e | e <;> rw [e] <;> rfl
theorem zeros_len (n : Nat) : (Builtin.zeroCells (Value.agg #[.string ⟨#[]⟩, .int .i64 0, .int .i64 0, .int .i64 0, .int .i64 0, .int .i64 0]).cells n).toList.length = n * 6 := by
  simp [Builtin.zeroCells, Value.cells]

theorem run_clear_none {P : Program} (w : World) (t e ty : TypeId) (ht : P.underlying t = some (.slice e)) (a : Option Addr) (c : Nat) : (Builtin.clear_ #[t] ty #[.slice a 0 c]).run P w = .ok (.tuple #[]) w := by
  cases a <;> simp [Builtin.clear_, run_underlying ht]

set_option maxHeartbeats 1000000 in
theorem takeOut_in (w : World) (base p : Nat) (ev : Value) (nb fb : Nat) (l r : List Tm) (h : Bk w base p ev nb fb (l ++ r)) :
    Calls Tryz.prog 57 #[.pointer (some ⟨p, 0, none⟩), .int .i64 (l.length : Int)] w fun e w' => e = .returned (.tuple #[]) ∧ ∃ ev', Bk w' base p ev' nb fb l ∧ ev'.ownBlock = ev.ownBlock ∧ Kept (BFoot p ev nb fb) w w' := by
  have hsm := h.small
  have hoks := h.oks
  have hnd := h.nodup
  obtain ⟨ea, ec, rfl⟩ := h.eform
  obtain ⟨Dn, Df, hq, T⟩ := h.split
  clear h
  rw [List.length_append] at hsm
  go_enter Tryz.func57, Tryz.ntmps57
  go_wp2_with fail
  go_loopw [4] (fun t W => ∃ j : Nat, j ≤ r.length ∧ t = .int .i64 ((l.length + j : Nat) : Int) ∧ ∃ Dn Df, Bq W base p (.slice ea (l ++ r).length ec) nb fb (l ++ r) Dn Df ∧ Out l r j Dn Df ∧ Hid (Kept (BFoot p (.slice ea (l ++ r).length ec) nb fb) w W)) (fun t _ => (l ++ r).length - (intOf t).toNat)
  case atStart => exact ⟨0, by omega, by simp, Dn, Df, hq, Out.start T, Kept.refl _ w⟩
  case round =>
    clear hq T Dn Df
    obtain ⟨j, hj, rfl, Dn, Df, Q, O, K⟩ := hrel
    have c0 : wr.cell? ⟨p, 0, none⟩ = some (.slice ea (l ++ r).length ec) := Q.bank.cell (by omega)
    have c1 : wr.cell? ⟨p, 1, none⟩ = some (.map (some nb)) := Q.bank.cell (i := 1) (by omega)
    have c2 : wr.cell? ⟨p, 2, none⟩ = some (.map (some fb)) := Q.bank.cell (i := 2) (by omega)
    have hll : (l ++ r).length = l.length + r.length := List.length_append
    by_cases hjr : j < r.length
    · have hre : r[j]? = some r[j] := List.getElem?_eq_getElem hjr
      generalize hgen : r[j] = e at hre
      have hae : (l ++ r)[l.length + j]? = some e := by rw [List.getElem?_append_right (by omega)]; simpa using hre
      have hok : e.ok := hoks e (List.mem_of_getElem? hae)
      obtain ⟨g, cap, hgc, hg⟩ := Q.at hae
      injection hgc with hg1 _ hg3
      subst hg1
      subst hg3
      have g0 : wr.cell? ⟨g, (l.length + j) * 6, none⟩ = some (.string e.name) := hg 0 _ rfl
      have g1 := hg 1 _ rfl
      have g2 := hg 2 _ rfl
      have g3 := hg 3 _ rfl
      have g4 := hg 4 _ rfl
      have g5 := hg 5 _ rfl
      clear hg
      go_wp2_with fail
      clear g0 g1 g2 g3 g4 g5 c0 c1 c2
      have bR := boxed_row wr e
      have hEL : (entryL e).toArray = #[.string e.name, .int .i64 (e.args.length : Int), .int .i64 (e.arg 0 : Int), .int .i64 (e.arg 1 : Int), .int .i64 (e.arg 2 : Int), .int .i64 (e.arg 3 : Int)] := rfl
      rw [hEL] at bR
      generalize hw1 : wr.alloc (Obj.cells #[.string e.name, .int .i64 (e.args.length : Int), .int .i64 (e.arg 0 : Int), .int .i64 (e.arg 1 : Int), .int .i64 (e.arg 2 : Int), .int .i64 (e.arg 3 : Int)] 152) = w1 at bR ⊢
      have K1 : Kept0 wr w1 := hw1 ▸ Kept.alloc (Kept.refl _ wr) _
      clear hw1
      have Q1 := Q.kept0 K1
      have hnl := World.ownsMap.lt Q.nums
      have hfl := World.ownsMap.lt Q.fsts
      generalize wr.heap.size = bx at *
      have c1 : w1.cell? ⟨p, 1, none⟩ = some (.map (some nb)) := Q1.bank.cell (i := 1) (by omega)
      have y0 := bR.c0
      have y1 := bR.c1
      have y2 := bR.c2
      have y3 := bR.c3
      have y4 := bR.c4
      have y5 := bR.c5
      obtain ⟨w2, hr2, Q2, K2⟩ := Bq.dropN Q1.drew hok 0
      simp only [entryV, hEL] at hr2
      go_region
      clear hr2 y0 y1 y2 y3 y4 y5 c1
      have b2 : Boxed w2 bx e := World.rowIs.of_block (World.rowIs.of_block bR rfl : Boxed w1.drew bx e) (K2.block bx (World.rowIs.lt bR) (by omega))
      have y0 := b2.c0
      have c2 : w2.cell? ⟨p, 2, none⟩ = some (.map (some fb)) := Q2.bank.cell (i := 2) (by omega)
      have LF := fun m => Says.look1 (Q2.drewN m).fsts (O.fsays e.name hok.name) sLaw Tryz.underlying81 (skey_of hok.name)
      have hlook := look_first (l := l) hre
      obtain ⟨N1, N2⟩ := O.nstep hnd hre hok (World.ownsMap.tidy Q.nums tLaw)
      generalize ((fst (l ++ r) e.name).filter (standsB l.length j)).getD 0 = f at *
      have KK : Kept (BFoot p (.slice (some ⟨g, 0, none⟩) (l ++ r).length ec) nb fb) w w2 := ((Kept.trans K (Kept.mono K1 (fun _ _ x => x.elim))).drew).trans (Kept.mono K2 (fun _ _ x => Or.inr (Or.inl x)))
      by_cases hf : f = l.length + j
      · have hf1 := hlook.1 hf
        have hb : ((f : Int) == (l.length : Int) + (j : Int)) = true := by simp; omega
        go_wp2_with fail
        go_quiet (fail)
        go_wp2_with fail
        have z0 : ∀ m, (w2.drewN m).cell? ⟨bx, 0, none⟩ = some (.string e.name) := fun m => y0
        have z2 : ∀ m, (w2.drewN m).cell? ⟨p, 2, none⟩ = some (.map (some fb)) := fun m => c2
        obtain ⟨F1, F2⟩ := O.fgone hre hok hf1 (World.ownsMap.tidy Q.fsts sLaw)
        obtain ⟨w3, hr3, Q3, K3⟩ := Bq.dropF (Q2.drewN (nq + 1)) hok.name 0
        go_region
        all_goals
          go_wp2_with fail
          refine ⟨⟨j + 1, by omega, by simp; omega, _, _, Q3, ⟨N1, N2, F1, F2⟩, (Kept.drewN KK _).trans (Kept.mono K3 (fun _ _ x => Or.inr (Or.inr (Or.inl x))))⟩, ?_⟩
          simp only [intOf]
          omega
      · have hf1 : fst (l ++ r) e.name ≠ some (l.length + j) := fun x => hf (hlook.2 x)
        have hb : ((f : Int) == (l.length : Int) + (j : Int)) = false := by simp; omega
        go_wp2_with fail
        go_quiet (fail)
        go_wp2_with fail
        obtain ⟨F1, F2⟩ := O.fstays hre hf1
        refine ⟨⟨j + 1, by omega, by simp; omega, _, _, Q2.drewN nq, ⟨N1, N2, F1, F2⟩, Kept.drewN KK nq⟩, ?_⟩
        simp only [intOf]
        omega
    · have hjr' : j = r.length := by omega
      subst hjr'
      have TT := O.done (fun t ht => hoks t (List.mem_append_left r ht)) (List.nodup_append.1 hnd).1 (by omega)
      have f0 := Q.bank.frozen 0
      rcases Q.rows.2 with ⟨ee, h0⟩ | ⟨g, cap, cur, ee, _, _, hcap, hcm, _⟩
      · have hl0 : l = [] := List.eq_nil_of_length_eq_zero (by rw [hll] at h0; omega)
        have hr0 : r = [] := List.eq_nil_of_length_eq_zero (by rw [hll] at h0; omega)
        subst hl0
        subst hr0
        injection ee with e1 e2 e3
        subst e1
        subst e3
        have hcl := fun (a : Option Addr) (c : Nat) => run_clear_none (P := Tryz.prog) wr 82 152 0 Tryz.underlying82 a c
        go_wp2_with fail
        go_end0
        exact ⟨rfl, _, (Q.reset).whole TT, rfl, Kept.setCell (p := ⟨p, 0, none⟩) K (Or.inl rfl) _⟩
      · injection ee with e1 e2 e3
        subst e1
        subst e3
        obtain ⟨C1, C2, C3, C4⟩ := Q.cut []
        by_cases hr0 : r.length = 0
        · have hcl := fun (a : Option Addr) (c : Nat) => run_clear_none (P := Tryz.prog) wr 82 152 0 Tryz.underlying82 a c
          have hr00 : r = [] := List.eq_nil_of_length_eq_zero hr0
          subst hr00
          by_cases hec : l.length = ec
          · subst hec
            go_wp2_with fail
            go_end0
            exact ⟨rfl, _, C1.whole TT, rfl, Kept.trans K C2⟩
          · go_wp2_with fail
            go_end0
            exact ⟨rfl, _, C1.whole TT, rfl, Kept.trans K C2⟩
        · clear C1 C2 C3 C4
          have hcap' : l.length < ec := by rw [hll] at hcap; omega
          obtain ⟨FF, HF⟩ := (RowTo.of Q.rows (k := 0) (by omega)).1.row
          have CL : (Builtin.clear_ #[82] 0 #[.slice (some ⟨g, l.length * 6, none⟩) r.length (ec - l.length)]).run Tryz.prog wr = .ok (.tuple #[]) (wr.setCells g (l.length * 6) (Builtin.zeroCells (Value.agg #[.string ⟨#[]⟩, .int .i64 0, .int .i64 0, .int .i64 0, .int .i64 0, .int .i64 0]).cells r.length).toList) :=
            run_clear_many wr 82 152 0 _ Tryz.underlying82 Tryz.zeroValue152 g (l.length * 6) r.length _ (by omega) _ rfl (zeros_one _) (fun i hi => by rw [zeros_len] at hi; rw [World.rowIs.cell HF (by rw [hll] at hcap; omega)]; rfl) (fun i _ => World.rowIs.frozen HF _)
          generalize (Builtin.zeroCells (Value.agg #[.string ⟨#[]⟩, .int .i64 0, .int .i64 0, .int .i64 0, .int .i64 0, .int .i64 0]).cells r.length).toList = vs at CL
          obtain ⟨C1, C2, C3, C4⟩ := Q.cut vs
          have hne : ¬ l.length = ec := by omega
          go_wp2_with fail
          go_end0
          exact ⟨rfl, _, C1.whole TT, rfl, Kept.trans K C2⟩

end Go.Proofs.YtlehlgipbhfioaaGreat
