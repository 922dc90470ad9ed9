/- Package term: add, where the term is new. Package logic: a map of how often each Pair came. -/
import Derived.Test.YtinphcnknionmabP02
import Derived.Test.YtinphcnknionmabP00
import Derived.WideKeyEntry
namespace Go.Proofs.Ytinphcnknionmab
open Go.RowKit Go.Maps

theorem infoEntry : (Try.prog.info? 128).map (fun i => (i.zero, i.size, i.bytes)) = some (some (.agg #[.string ⟨#[]⟩, .int .i64 0, .int .i64 0, .int .i64 0, .int .i64 0, .int .i64 0]), 6, 56) := by kernel_rfl

/-- The cells of a box that holds an entry. -/
def boxF (t : Tm) (j : Nat) : Value := (entryL t).toArray[j]?.getD undef
abbrev Boxed (w : World) (b : Nat) (t : Tm) : Prop := w.rowIs b 128 6 (boxF t)
theorem boxed_row (w : World) (t : Tm) : Boxed (w.alloc (.cells (entryL t).toArray 128)) w.heap.size t := made_row w (entryL t).toArray 128

theorem Boxed.c0 {w : World} {b : Nat} {t : Tm} (h : Boxed w b t) : w.cell? ⟨b, 0, none⟩ = some (.string t.name) := h.cell (i := 0) (by omega)
theorem Boxed.c1 {w : World} {b : Nat} {t : Tm} (h : Boxed w b t) : w.cell? ⟨b, 1, none⟩ = some (.int .i64 (t.args.length : Int)) := h.cell (i := 1) (by omega)
theorem Boxed.c2 {w : World} {b : Nat} {t : Tm} (h : Boxed w b t) : w.cell? ⟨b, 2, none⟩ = some (.int .i64 (t.arg 0 : Int)) := h.cell (i := 2) (by omega)
theorem Boxed.c3 {w : World} {b : Nat} {t : Tm} (h : Boxed w b t) : w.cell? ⟨b, 3, none⟩ = some (.int .i64 (t.arg 1 : Int)) := h.cell (i := 3) (by omega)
theorem Boxed.c4 {w : World} {b : Nat} {t : Tm} (h : Boxed w b t) : w.cell? ⟨b, 4, none⟩ = some (.int .i64 (t.arg 2 : Int)) := h.cell (i := 4) (by omega)
theorem Boxed.c5 {w : World} {b : Nat} {t : Tm} (h : Boxed w b t) : w.cell? ⟨b, 5, none⟩ = some (.int .i64 (t.arg 3 : Int)) := h.cell (i := 5) (by omega)
theorem Boxed.kept0 {w w' : World} {b : Nat} {t : Tm} (h : Boxed w b t) (K : Kept0 w w') : Boxed w' b t := World.rowIs.of_block h (K.block b (World.rowIs.lt h) (fun e => e))
theorem Boxed.named {w : World} {b : Nat} {t : Tm} (h : Boxed w b t) : Boxed (w.setCell ⟨b, 0, none⟩ (.string t.name)) b t :=
  World.rowIs.congr (World.rowIs.set h 0 (.string t.name)) (fun j hj => by
    by_cases e : j = 0
    · subst e; rfl
    · simp [e])

/-- A bank's row and maps, whatever they say. -/
structure Bq (w : World) (base p : Nat) (ev : Value) (nb fb : Nat) (l : List Tm) (Dn Df : DataW Unit) : Prop where
  bank : w.rowIs p 85 3 (bankC ev nb fb)
  rows : w.ownsRow base 128 6 ev l.length (l.flatMap entryL)
  nums : mapIs w 128 nb Dn
  fsts : mapIs w 9 fb Df
  pn : p ≠ nb
  pf : p ≠ fb
  nf : nb ≠ fb
  ep : ev.ownBlock ≠ some p
  en : ev.ownBlock ≠ some nb
  ef : ev.ownBlock ≠ some fb
  bp : base ≤ p
  bn : base ≤ nb
  bf : base ≤ fb

structure Tells (l : List Tm) (Dn Df : DataW Unit) : Prop where
  nsize : Maps.size Dn = l.length
  nsays : ∀ t : Tm, t.ok → Says Dn (ekey t) (nix l t)
  fsize : Maps.size Df = cntF l
  fsays : ∀ n : ByteArray, n.size ≤ 6 → Says Df (skey n) (fst l n)
  oks : ∀ t ∈ l, t.ok
  nodup : l.Nodup
  small : l.length ≤ 1000

theorem Bk.split {w : World} {base p : Nat} {ev : Value} {nb fb : Nat} {l : List Tm} (h : Bk w base p ev nb fb l) : ∃ Dn Df, Bq w base p ev nb fb l Dn Df ∧ Tells l Dn Df := by
  obtain ⟨Dn, n1, n2, n3⟩ := h.nums
  obtain ⟨Df, f1, f2, f3⟩ := h.fsts
  exact ⟨Dn, Df, ⟨h.bank, h.rows, n1, f1, h.pn, h.pf, h.nf, h.ep, h.en, h.ef, h.bp, h.bn, h.bf⟩, ⟨n2, n3, f2, f3, h.oks, h.nodup, h.small⟩⟩
theorem Bq.whole {w : World} {base p : Nat} {ev : Value} {nb fb : Nat} {l : List Tm} {Dn Df : DataW Unit} (h : Bq w base p ev nb fb l Dn Df) (T : Tells l Dn Df) : Bk w base p ev nb fb l :=
  ⟨h.bank, h.rows, ⟨Dn, h.nums, T.nsize, T.nsays⟩, ⟨Df, h.fsts, T.fsize, T.fsays⟩, T.oks, T.nodup, h.pn, h.pf, h.nf, h.ep, h.en, h.ef, h.bp, h.bn, h.bf, T.small⟩

theorem mapIs_type {w : World} {b k : Nat} {kt e : TypeId} {D : DataW Unit} (h : mapIs w kt b D) {base size : Nat} {v : Value} {xs : List Value} (hr : w.ownsRow base e size v k xs) : v.ownBlock ≠ some b := by
  intro hb
  obtain ⟨es, clock, hm, _⟩ := h
  rcases hr.2 with ⟨rfl, _⟩ | ⟨g, cap, cur, rfl, _, hg, _⟩
  · simp [Value.ownBlock] at hb
  · simp [Value.ownBlock] at hb
    subst hb
    rw [hm] at hg
    cases hg

theorem six_news (w : World) (m : Nat) (t : Tm) : ∀ j u, (entryL t)[j]? = some u → ((w.drewN m).alloc (.cells (entryL t).toArray 128)).cell? ((⟨w.heap.size, 0, none⟩ : Addr).add j) = some u := by
  intro j u hj
  have e := boxed (w.drewN m) t j u hj
  have ea : ((⟨w.heap.size, 0, none⟩ : Addr).add j) = ⟨w.heap.size, j, none⟩ := by
    simp [Addr.add]
    intro e0
    rw [e0]
  rw [ea]
  exact e

/-- A term is kept in the row: the maps are as they were. -/
theorem Bq.appended {w w1 : World} {base p : Nat} {ev : Value} {nb fb : Nat} {l : List Tm} {Dn Df : DataW Unit} (h : Bq w base p ev nb fb l Dn Df) (m : Nat) (O : Obj) (t : Tm) (v' : Value)
    (hown : w1.ownsRow base 128 6 v' (l.length + 1) (l.flatMap entryL ++ entryL t)) (hgrow : ((w.drewN m).alloc O).grownBy w1 ev.ownBlock)
    (hloc : v'.ownBlock = ev.ownBlock ∨ ∀ k, v'.ownBlock = some k → ((w.drewN m).alloc O).heap.size ≤ k) :
    Bq (w1.setCell ⟨p, 0, none⟩ v') base p v' nb fb (l ++ [t]) Dn Df ∧ Kept (BFoot p ev nb fb) w (w1.setCell ⟨p, 0, none⟩ v') ∧ (v'.ownBlock = ev.ownBlock ∨ ∀ k, v'.ownBlock = some k → w.heap.size ≤ k) ∧
      w1.cell? ⟨p, 0, none⟩ = some ev ∧ w1.frozen? ⟨p, 0, none⟩ = false := by
  have hb0 : ((w.drewN m).alloc O).rowIs p 85 3 (bankC ev nb fb) := World.rowIs.alloc (World.rowIs.of_block h.bank rfl) O
  have hp : w1.rowIs p 85 3 (bankC ev nb fb) := hb0.of_block (hgrow.block p hb0.lt (fun e => h.ep e.symm))
  have n0 : mapIs ((w.drewN m).alloc O) 128 nb Dn := World.ownsMap.alloc h.nums O
  have f0 : mapIs ((w.drewN m).alloc O) 9 fb Df := World.ownsMap.alloc h.fsts O
  have n1 : mapIs w1 128 nb Dn := World.ownsMap.kept n0 hgrow (fun e => h.en e.symm)
  have f1 : mapIs w1 9 fb Df := World.ownsMap.kept f0 hgrow (fun e => h.ef e.symm)
  have np := rowIs_type hp (by decide) hown
  refine ⟨⟨(hp.set 0 v').congr ?_, ?_, World.ownsMap.setCell n1 (Ne.symm h.pn) _, World.ownsMap.setCell f1 (Ne.symm h.pf) _, h.pn, h.pf, h.nf, np, mapIs_type n1 hown, mapIs_type f1 hown, h.bp, h.bn, h.bf⟩, ?_, ?_, hp.cell (i := 0) (by omega), hp.frozen 0⟩
  · intro i hi
    rcases (by omega : i = 0 ∨ i = 1 ∨ i = 2) with rfl | rfl | rfl <;> simp [bankC]
  · rw [List.length_append, List.flatMap_append]
    simpa using ownsRow_setCell_other hown np _
  · exact Kept.setCell (S := BFoot p ev nb fb) (p := ⟨p, 0, none⟩) (Kept.grown (((Kept.refl (BFoot p ev nb fb) w).drewN m).alloc O) hgrow (fun k hk => Or.inr (Or.inr (Or.inr hk)))) (Or.inl rfl) _
  · rcases hloc with e | e
    · exact Or.inl e
    · exact Or.inr fun k hk => by have := e k hk; simp at this; omega

theorem Kept1.of_grown {b : Nat} {w w' : World} (h : w.grownBy w' (some b)) : Kept1 b w w' := ⟨h.os, h.tape, h.output, h.size, fun k hk hs => h.block k hk (fun e => hs (by simpa using e))⟩

theorem Bq.drew {w : World} {base p : Nat} {ev : Value} {nb fb : Nat} {l : List Tm} {Dn Df : DataW Unit} (h : Bq w base p ev nb fb l Dn Df) : Bq w.drew base p ev nb fb l Dn Df :=
  ⟨h.bank, h.rows, h.nums, h.fsts, h.pn, h.pf, h.nf, h.ep, h.en, h.ef, h.bp, h.bn, h.bf⟩
theorem Bq.drewN {w : World} {base p : Nat} {ev : Value} {nb fb : Nat} {l : List Tm} {Dn Df : DataW Unit} (h : Bq w base p ev nb fb l Dn Df) (m : Nat) : Bq (w.drewN m) base p ev nb fb l Dn Df :=
  ⟨h.bank, h.rows, h.nums, h.fsts, h.pn, h.pf, h.nf, h.ep, h.en, h.ef, h.bp, h.bn, h.bf⟩

theorem Bq.storeN {w : World} {base p : Nat} {ev : Value} {nb fb : Nat} {l : List Tm} {Dn Df : DataW Unit} (h : Bq w base p ev nb fb l Dn Df) {t : Tm} (ht : t.ok) {n : Nat} (hn : n < 100000) (hs : Maps.size Dn < maxLen) :
    ∃ w', (Instr.mapUpdate 81 (.map (some nb)) (entryV t) (.int .i64 (n : Int))).run Try.prog w = .ok () w' ∧ Bq w' base p ev nb fb l (Dn.put (ekey t) (.lit (.int .i64 (n : Int)))) Df ∧ Kept1 nb w w' := by
  obtain ⟨w', hr, ho, hturn⟩ := World.ownsMap.store h.nums tLaw Try.underlying81 hs (ekey_of ht) (plainElem_int Try.underlying3 (wf64 hn))
  have g := hturn.grown
  exact ⟨w', hr, ⟨h.bank.of_block (g.block p h.bank.lt (by simpa using h.pn)), h.rows.kept g (Or.inr h.en), mapIs_of ho, World.ownsMap.kept h.fsts g (by simpa using Ne.symm h.nf), h.pn, h.pf, h.nf, h.ep, h.en, h.ef, h.bp, h.bn, h.bf⟩, Kept1.of_grown g⟩

theorem Bq.storeF {w : World} {base p : Nat} {ev : Value} {nb fb : Nat} {l : List Tm} {Dn Df : DataW Unit} (h : Bq w base p ev nb fb l Dn Df) {s : ByteArray} (ht : s.size ≤ 6) {n : Nat} (hn : n < 100000) (hs : Maps.size Df < maxLen) :
    ∃ w', (Instr.mapUpdate 82 (.map (some fb)) (.string s) (.int .i64 (n : Int))).run Try.prog w = .ok () w' ∧ Bq w' base p ev nb fb l Dn (Df.put (skey s) (.lit (.int .i64 (n : Int)))) ∧ Kept1 fb w w' := by
  obtain ⟨w', hr, ho, hturn⟩ := World.ownsMap.store h.fsts sLaw Try.underlying82 hs (skey_of ht) (plainElem_int Try.underlying3 (wf64 hn))
  have g := hturn.grown
  exact ⟨w', hr, ⟨h.bank.of_block (g.block p h.bank.lt (by simpa using h.pf)), h.rows.kept g (Or.inr h.ef), World.ownsMap.kept h.nums g (by simpa using h.nf), mapIs_of ho, h.pn, h.pf, h.nf, h.ep, h.en, h.ef, h.bp, h.bn, h.bf⟩, Kept1.of_grown g⟩

/-- 'm[k] = v' as one step of a region that draws. -/
theorem step_mapUpdate {P : Program} {ops : Array Oper} {o : Oper} {a : Act} {w : World} {K : Act → World → Prop} {Q : Exit → Act → World → Prop} {E : Prop} {R : World → Prop}
    (hg : o.guard = none) (m x v : Operand) (t : TypeId) (hop : o.op = Op.mapUpdate t m x v) (mv key val : Value) (hm : a.eval m = mv) (hx : a.eval x = key) (hv : a.eval v = val)
    (hex : ∃ w', (Instr.mapUpdate t mv key val).run P w = .ok () w' ∧ R w') (hK : ∀ w', R w' → K (a.put o.dst undef) w') :
    if Region.wanted o (yielded ops a.tmps) = true then Oper.wp P o a w K Q else E := by
  have hw : Region.wanted o (yielded ops a.tmps) = true := by simp [Region.wanted, hg]
  rw [if_pos hw]
  obtain ⟨w', hrun, r⟩ := hex
  unfold Oper.wp
  simp [execOp, hop, hm, hx, hv, hrun, Result.andThen]
  exact hK w' r

theorem Tells.nput {l : List Tm} {Dn Df : DataW Unit} (T : Tells l Dn Df) {t : Tm} (ht : t.ok) (hi : nix l t = none) (hD : Tidy Dn) : Maps.size (Dn.put (ekey t) (.lit (.int .i64 (l.length : Int)))) = l.length + 1 := by
  have hh := (T.nsays t ht).1
  rw [hi] at hh
  rw [size_put hD, hh, T.nsize]
  rfl
theorem nodup_snoc {l : List Tm} {t : Tm} (h : l.Nodup) (hi : nix l t = none) : (l ++ [t]).Nodup := by
  rw [List.nodup_append]
  exact ⟨h, by simp, fun a ha b hb e => by simp at hb; subst hb; subst e; exact nix_none hi ha⟩
theorem oks_snoc {l : List Tm} {t : Tm} (h : ∀ u ∈ l, u.ok) (ht : t.ok) : ∀ u ∈ l ++ [t], u.ok := by
  intro u hu
  rcases List.mem_append.1 hu with hu | hu
  · exact h u hu
  · simp at hu; subst hu; exact ht
theorem Tells.snoc_new {l : List Tm} {Dn Df : DataW Unit} (T : Tells l Dn Df) {t : Tm} (ht : t.ok) (hi : nix l t = none) (hf : fst l t.name = none) (hlt : l.length < 1000) (hD : Tidy Dn) (hF : Tidy Df) :
    Tells (l ++ [t]) (Dn.put (ekey t) (.lit (.int .i64 (l.length : Int)))) (Df.put (skey t.name) (.lit (.int .i64 (l.length : Int)))) := by
  refine ⟨by rw [T.nput ht hi hD]; simp, nums_snoc T.nsays hD.isMap ht hi, ?_, fsts_snoc T.fsays hF.isMap ht hf, oks_snoc T.oks ht, nodup_snoc T.nodup hi, by simp; omega⟩
  have hh := (T.fsays t.name ht.name).1
  rw [hf] at hh
  rw [size_put hF, hh, T.fsize, cntF_snoc, hf]
  rfl
theorem Tells.snoc_old {l : List Tm} {Dn Df : DataW Unit} (T : Tells l Dn Df) {t : Tm} (ht : t.ok) (hi : nix l t = none) {i : Nat} (hf : fst l t.name = some i) (hlt : l.length < 1000) (hD : Tidy Dn) :
    Tells (l ++ [t]) (Dn.put (ekey t) (.lit (.int .i64 (l.length : Int)))) Df := by
  refine ⟨by rw [T.nput ht hi hD]; simp, nums_snoc T.nsays hD.isMap ht hi, ?_, fsts_kept T.fsays hf, oks_snoc T.oks ht, nodup_snoc T.nodup hi, by simp; omega⟩
  rw [T.fsize, cntF_snoc, hf]
  rfl

set_option maxHeartbeats 1000000 in
theorem add_new (w : World) (base p : Nat) (ev : Value) (nb fb : Nat) (l : List Tm) (h : Bk w base p ev nb fb l) (t : Tm) (ht : t.ok) (hi : nix l t = none) (hlt : l.length < 1000) (hbase : base ≤ w.heap.size) :
    Calls Try.prog 84 #[.pointer (some ⟨p, 0, none⟩), entryV t] w fun e w' => e = .returned (.int .i64 (l.length : Int)) ∧ ∃ ev', Bk w' base p ev' nb fb (l ++ [t]) ∧ Kept (BFoot p ev nb fb) w w' ∧ (ev'.ownBlock = ev.ownBlock ∨ ∀ k, ev'.ownBlock = some k → w.heap.size ≤ k) := by
  unfold entryV
  have bR := boxed_row w t
  have W1 : (entryL t).toArray = #[.string t.name, .int .i64 (t.args.length : Int), .int .i64 (t.arg 0 : Int), .int .i64 (t.arg 1 : Int), .int .i64 (t.arg 2 : Int), .int .i64 (t.arg 3 : Int)] := rfl
  rw [W1] at bR ⊢
  clear W1
  obtain ⟨ea, ec, rfl⟩ := h.eform
  have hpl := h.bank.lt
  obtain ⟨Dn0, Df0, hq0, _⟩ := h.split
  have hnl := World.ownsMap.lt hq0.nums
  have hfl := World.ownsMap.lt hq0.fsts
  have hev : (Value.slice ea l.length ec).ownBlock ≠ some w.heap.size := fun e => by have := (h.rows.lt _ e).2; omega
  clear hq0
  go_enter Try.func84, Try.ntmps84
  go_wp2_with fail
  generalize hw1 : w.alloc (Obj.cells #[.string t.name, .int .i64 (t.args.length : Int), .int .i64 (t.arg 0 : Int), .int .i64 (t.arg 1 : Int), .int .i64 (t.arg 2 : Int), .int .i64 (t.arg 3 : Int)] 128) = w1 at bR ⊢
  have K1 : Kept0 w w1 := hw1 ▸ Kept.alloc (Kept.refl _ w) _
  have hsz1 : w.heap.size < w1.heap.size := bR.lt
  clear hw1
  have H1 := h.kept0 K1
  generalize hbx : w.heap.size = bx at *
  have hpb : ¬ p = bx := by omega
  have c1 := H1.c1
  have x0 := bR.c0
  have x1 := bR.c1
  have x2 := bR.c2
  have x3 := bR.c3
  have x4 := bR.c4
  have x5 := bR.c5
  have LN := fun m => (H1.drewN m).lookN ht
  rw [hi] at LN
  simp only [Option.getD_none, Option.isSome_none, entryV, entryL] at LN
  go_quiet (fail)
  clear LN x1 x2 x3 x4 x5 c1
  have bRd := fun m => (World.rowIs.of_block bR rfl : Boxed (w1.drewN m) bx t)
  go_wp2_with (go_at_call 87; go_loud (refine (clone_any _ _ ht.name).mono ?_; rintro e w2 ⟨rfl, K2⟩; have bR2 := Boxed.kept0 (bRd _) K2; have y0 := Boxed.c0 bR2; have f0 := World.rowIs.frozen bR2 0; have H2 := Bk.kept0 (H1.drewN _) K2; have z0 := H2.c0; have hpb' := hpb))
  have H3 := Bk.kept1 H2 (Kept1.set (Kept.refl _ w2) 0 (.string t.name) : Kept1 bx w2 _) hpb (by omega) (by omega) hev
  have K3 : Kept0 w (w2.setCell ⟨bx, 0, none⟩ (.string t.name)) := Kept.mono (S := fun k => k = bx) (Kept1.set (Kept.mono ((Kept.drewN K1 nq).trans K2) (fun _ _ x => x.elim)) 0 _) (fun k hk e => by omega)
  have b3 := Boxed.named bR2
  clear H1 H2 K1 K2 bR bR2 bRd y0 f0 z0 x0 hpb'
  generalize w2.setCell ⟨bx, 0, none⟩ (.string t.name) = w3 at *
  obtain ⟨Dn, Df, Q3, T3⟩ := H3.split
  clear H3
  have hb3 : base ≤ w3.heap.size := by have := K3.size; omega
  have y0 := b3.c0
  have y1 := b3.c1
  have y2 := b3.c2
  have y3 := b3.c3
  have y4 := b3.c4
  have y5 := b3.c5
  have c0 : w3.cell? ⟨p, 0, none⟩ = some (.slice ea l.length ec) := Q3.bank.cell (by omega)
  have A0 : ∀ m O, ((w3.drewN m).alloc O).cell? ⟨p, 0, none⟩ = some (.slice ea l.length ec) := fun m O => World.rowIs.cell (World.rowIs.alloc (World.rowIs.of_block Q3.bank rfl : (w3.drewN m).rowIs p 85 3 (bankC (.slice ea l.length ec) nb fb)) O) (by omega)
  have A1 : ∀ O, (w3.alloc O).cell? ⟨p, 0, none⟩ = some (.slice ea l.length ec) := fun O => World.rowIs.cell (World.rowIs.alloc Q3.bank O) (by omega)
  have OWN : ∀ m O, ((w3.drewN m).alloc O).ownsRow base 128 6 (.slice ea l.length ec) l.length (l.flatMap entryL) := fun m O => World.ownsRow.alloc (w := w3.drewN m) Q3.rows O
  have NEW := fun m => six_news w3 m t
  have hEL : entryL t = [.string t.name, .int .i64 (t.args.length : Int), .int .i64 (t.arg 0 : Int), .int .i64 (t.arg 1 : Int), .int .i64 (t.arg 2 : Int), .int .i64 (t.arg 3 : Int)] := rfl
  simp only [hEL] at NEW
  obtain ⟨i0, hi0, hz0, hz1, hz2⟩ := info_parts infoEntry
  go_region_law (refine step_append_here rfl (.tmp 34) (.tmp 36) 83 rfl base 128 i0 _ 6 56 Try.underlying83 hi0 hz0 hz1 hz2 rfl (by decide) _ l.length (l.flatMap entryL) (by simp [Act.eval]; rfl) (by exact OWN _ _) ⟨w3.heap.size, 0, none⟩ 1 1 [.string t.name, .int .i64 (t.args.length : Int), .int .i64 (t.arg 0 : Int), .int .i64 (t.arg 1 : Int), .int .i64 (t.arg 2 : Int), .int .i64 (t.arg 3 : Int)] (by simp [Act.eval]) rfl (by exact NEW _) (by simp [Value.oneCell']) (by unfold maxLen; omega) (by omega) (by simp; omega) ?_; intro v' w4 hown1 hgrow hloc; obtain ⟨Q4, K4, L4, kp1, kf1⟩ := Bq.appended Q3 _ _ t v' hown1 hgrow hloc; obtain ⟨b1, cap1, hv1⟩ := ownsRow_succ hown1; subst hv1)
  all_goals
    clear hown1 hgrow hloc kp1 kf1 A0 A1 OWN NEW y0 y1 y2 y3 y4 y5 c0
    go_wp2_with fail
    generalize hv5 : Value.slice (some (⟨b1, 0, none⟩ : Addr)) (l.length + 1) cap1 = v5 at *
    have b5 : Boxed (w4.setCell ⟨p, 0, none⟩ v5) bx t := World.rowIs.of_block b3 (K4.block bx (World.rowIs.lt b3) (fun x => by
      rcases x with x | x | x | x
      · exact hpb x.symm
      · omega
      · omega
      · exact hev x))
    generalize w4.setCell ⟨p, 0, none⟩ v5 = w5 at *
    have d1 : w5.cell? ⟨p, 1, none⟩ = some (.map (some nb)) := Q4.bank.cell (i := 1) (by omega)
    have y0 := b5.c0
    have y1 := b5.c1
    have y2 := b5.c2
    have y3 := b5.c3
    have y4 := b5.c4
    have y5 := b5.c5
    have hsn : Maps.size Dn < maxLen := by have := T3.nsize; unfold maxLen; omega
    obtain ⟨w6, hr6, Q6, K6⟩ := Bq.storeN Q4.drew ht (n := l.length) (by omega) hsn
    simp only [entryV, hEL] at hr6
    go_region
    clear hr6 y1 y2 y3 y4 y5 d1
    have b6 : Boxed w6 bx t := World.rowIs.of_block (World.rowIs.of_block b5 rfl : Boxed w5.drew bx t) (K6.block bx (World.rowIs.lt b5) (by omega))
    have y0 := b6.c0
    have d2 : w6.cell? ⟨p, 2, none⟩ = some (.map (some fb)) := Q6.bank.cell (i := 2) (by omega)
    have LF := fun m => Says.look (Q6.drewN m).fsts (T3.fsays t.name ht.name) sLaw Try.underlying82 (skey_of ht.name)
    cases hf : fst l t.name with
    | none =>
      rw [hf] at LF
      simp only [Option.getD_none, Option.isSome_none] at LF
      go_wp2_with fail
      go_quiet (fail)
      go_wp2_with fail
      clear LF
      have hsf : Maps.size Df < maxLen := by have := T3.fsize; have := cntF_le l; unfold maxLen; omega
      have z0 : ∀ m, (w6.drewN m).cell? ⟨bx, 0, none⟩ = some (.string t.name) := fun m => y0
      have z2 : ∀ m, (w6.drewN m).cell? ⟨p, 2, none⟩ = some (.map (some fb)) := fun m => d2
      obtain ⟨w7, hr7, Q7, K7⟩ := Bq.storeF (Q6.drewN (nq + 1)) ht.name (n := l.length) (by omega) hsf
      go_region
      all_goals
        go_wp2_with fail
        go_ret
        refine ⟨rfl, v5, Q7.whole (T3.snoc_new ht hi hf hlt (World.ownsMap.tidy Q3.nums tLaw) (World.ownsMap.tidy Q3.fsts sLaw)), ?_, ?_⟩
        · exact ((Kept.mono K3 (fun _ _ x => x.elim)).trans K4).drew.trans ((Kept.mono K6 (fun _ _ x => Or.inr (Or.inl x))).drewN _ |>.trans (Kept.mono K7 (fun _ _ x => Or.inr (Or.inr (Or.inl x)))))
        · exact L4.imp id (fun x k hk => Nat.le_trans K3.size (x k hk))
    | some i =>
      rw [hf] at LF
      simp only [Option.getD_some, Option.isSome_some] at LF
      go_wp2_with fail
      go_quiet (fail)
      go_wp2_with fail
      go_ret
      refine ⟨rfl, v5, (Q6.drewN _).whole (T3.snoc_old ht hi hf hlt (World.ownsMap.tidy Q3.nums tLaw)), ?_, ?_⟩
      · exact (((Kept.mono K3 (fun _ _ x => x.elim)).trans K4).drew.trans (Kept.mono K6 (fun _ _ x => Or.inr (Or.inl x)))).drewN _
      · exact L4.imp id (fun x k hk => Nat.le_trans K3.size (x k hk))

end Go.Proofs.Ytinphcnknionmab

namespace Go.Proofs.Ytinphcnknionmab
open Go.RowKit Go.Maps Go.ChangeShapes Go.WideShapes Go.MapKept Go.ChangeMaps Go.WideElems

theorem pRow : (28 : TypeId) < Try.prog.types.size := of_decide_eq_true (by kernel_rfl)
theorem pCells : Try.prog.cellsOf 28 = 2 := by kernel_rfl
theorem pKeyType : Try.prog.keyType 28 = true := by kernel_rfl
theorem pKeyAt : Try.prog.keyTypeAt 3 28 = true := by kernel_rfl
theorem pKl : WideMaps.KeyLaw Try.prog 28 := deep_law_laid tLaid (m := 3) (by omega) pRow pKeyAt (by rw [Try.underlying28])
theorem pLaw : Keyed Try.prog 28 := Keyed.of_law pKl

def P64 (p : Int × Int) : Prop := R64 p.1 ∧ R64 p.2
def pairV (p : Int × Int) : Value := .agg #[.int .i64 p.1, .int .i64 p.2]

theorem pair_formed (p : Int × Int) : (pairV p).formed Try.prog 28 = true := by simp [pairV, Value.formed, Try.underlying28, pCells]
theorem pair_key (p : Int × Int) (h : P64 p) : ∃ kl, keyOf Try.prog 28 (pairV p) = some kl := by
  have g0 : (Lit.int .i64 p.1).wf = true := WalkArith.wf_i64 h.1
  have g1 : (Lit.int .i64 p.2).wf = true := WalkArith.wf_i64 h.2
  unfold keyOf
  rw [Try.underlying28]
  simp only [pKeyType, pair_formed]
  obtain ⟨m, hm⟩ : ∃ m, Try.prog.types.size + 1 = m + 3 := ⟨Try.prog.types.size - 2, by have h9 := pRow; generalize Try.prog.types.size = z at h9 ⊢; exact (by have h8 : 3 ≤ z := Nat.le_trans (by decide) (Nat.le_of_lt h9); omega)⟩
  rw [hm]
  simp [Program.keyLits, Try.underlying28, Try.underlying3, pCells, tCellsI, pairV, Value.cells, g0, g1]

noncomputable def pkey (p : Int × Int) : Lit := (keyOf Try.prog 28 (pairV p)).getD (.bool false)
theorem pkey_of {p : Int × Int} (h : P64 p) : keyOf Try.prog 28 (pairV p) = some (pkey p) := by
  obtain ⟨kl, hk⟩ := pair_key p h
  simp [pkey, hk]
theorem pairV_inj {p q : Int × Int} (h : pairV p = pairV q) : p = q := by
  obtain ⟨a, b⟩ := p
  obtain ⟨c, d⟩ := q
  simp [pairV] at h
  rw [h.1, h.2]
theorem pkey_inj {p q : Int × Int} (hp : P64 p) (hq : P64 q) (h : pkey p = pkey q) : p = q :=
  pairV_inj (pLaw.inj (pkey_of hp) (by rw [h]; exact pkey_of hq))
theorem pkey_lit {p : Int × Int} (hp : P64 p) : ∃ k, pkey p = k ∧ WideAt.IsKeyLit k := by
  have h := pkey_of hp
  generalize pkey p = k at h
  exact ⟨k, rfl, pLaw.key h⟩

/-- The map at mb says how often each came in l. -/
def CntIs (W : World) (mb : Nat) (l : List (Int × Int)) : Prop :=
  ∃ D, mapIs W 28 mb D ∧ Maps.size D ≤ l.length ∧ ∀ p, P64 p → D.atKey (pkey p) (.lit (.int .i64 0)) = .lit (.int .i64 (l.count p : Int))

theorem CntIs.new (W : World) : CntIs (W.alloc (.map #[] 0)) W.heap.size [] := by
  refine ⟨_, mapIs_of (World.ownsMap_made W Try.prog 28 (plainElem Try.prog 3)), ?_, fun p hp => ?_⟩
  · exact Nat.le_refl _
  · rfl
theorem CntIs.keep {W W' : World} {mb : Nat} {l : List (Int × Int)} (h : CntIs W mb l) (hb : W'.heap[mb]? = W.heap[mb]?) : CntIs W' mb l := by
  obtain ⟨D, h1, h2, h3⟩ := h
  obtain ⟨es, clock, e1, e2, e3, e4⟩ := h1
  exact ⟨D, ⟨es, clock, hb.trans e1, e2, e3, e4⟩, h2, h3⟩
theorem CntIs.lt {W : World} {mb : Nat} {l : List (Int × Int)} (h : CntIs W mb l) : ∃ es clock, W.heap[mb]? = some (Obj.map es clock) := by
  obtain ⟨D, ⟨es, clock, e1, _⟩, _⟩ := h
  exact ⟨es, clock, e1⟩

/-- 'counts[p]'. -/
theorem CntIs.look {W : World} {mb : Nat} {l : List (Int × Int)} (h : CntIs W mb l) {p : Int × Int} (hp : P64 p) :
    (Instr.lookup 64 (.map (some mb)) (pairV p) false).run Try.prog W = .ok (.int .i64 (l.count p : Int)) W := by
  obtain ⟨D, h1, h2, h3⟩ := h
  obtain ⟨c, hrun, hat, _⟩ := World.ownsMap.lookup_int h1 pLaw Try.underlying64 Try.underlying3 (zeroI W) (pkey_of hp)
  rw [h3 p hp] at hat
  simp at hat
  rw [hrun, hat]

theorem setBlock_self {w : World} {b : Nat} {o : Obj} (hb : w.heap[b]? = some o) : setBlock w b o = w := by
  have e : w.heap.setIfInBounds b o = w.heap := by
    apply Array.ext_getElem?
    intro i
    rw [Array.getElem?_setIfInBounds]
    split
    · rename_i h
      subst h
      rw [hb, if_pos (Array.getElem?_eq_some_iff.1 hb).1]
    · rfl
  unfold setBlock
  rw [e]
theorem key_unique {l : List MapEntry} (h : (l.map (fun x => x.key)).Nodup) {x y : MapEntry} (hx : x ∈ l) (hy : y ∈ l) (e : x.key = y.key) : x = y := by
  induction l with
  | nil => simp at hx
  | cons a r ih =>
    rw [List.map_cons, List.nodup_cons] at h
    rcases List.mem_cons.1 hx with ex | ex <;> rcases List.mem_cons.1 hy with ey | ey
    · rw [ex, ey]
    · exact absurd (List.mem_map.2 ⟨y, ey, by rw [← e, ex]⟩) h.1
    · exact absurd (List.mem_map.2 ⟨x, ex, by rw [e, ey]⟩) h.1
    · exact ih h.2 ex ey

/-- Behind the making of an entry one finds what it holds. -/
theorem entry_look {H : Type} {P : Program} {w Wa : World} {t k e : TypeId} {R : Value → Option (DataW H × List MemPlace)} {b : Nat} {es : Array MapEntry} {clock : Nat} (K : WideMaps.KeyLaw P k) (ht : P.underlying t = some (.map k e)) {z : Value} (hz : ∀ u : World, (zeroValue e).run P u = .ok z u) (hb : w.heap[b]? = some (.map es clock)) (F : Fit P k R es clock)
    {key : Value} {kl : Lit} (hkey : keyOf P k key = some kl) {v0 st : Value} (hrun : (Instr.mapEntry t (.map (some b)) key).run P w = .ok (.tuple #[v0, st]) Wa) : (Instr.lookup t (.map (some b)) key false).run P Wa = .ok v0 Wa := by
  rcases K.find w hkey es.toList F.keys with ⟨h1, h2⟩ | ⟨j, e0, h1, h2, h3⟩
  · have hr : (Instr.mapEntry t (.map (some b)) key).run P w = .ok (.tuple #[z, goInt clock]) (setBlock w b (.map (es.push ⟨key, z, clock⟩) (clock + 1))) := by
      simp [Instr.mapEntry, run_underlying ht, MapKept.run_getObj_map hb, K.check w false hkey, h1, hz, MapKept.run_setObj_map _ hb, Result.andThen, setBlock]
    rw [hrun] at hr
    simp only [Result.ok.injEq, Value.tuple.injEq, Array.mk.injEq, List.cons.injEq] at hr
    obtain ⟨⟨rfl, _⟩, rfl⟩ := hr
    have hb' := heap_setBlock_same (w := w) hb (.map (es.push ⟨key, v0, clock⟩) (clock + 1))
    rcases K.find (setBlock w b (.map (es.push ⟨key, v0, clock⟩) (clock + 1))) hkey (es.push ⟨key, v0, clock⟩).toList (by
      intro x hx
      simp only [Array.toList_push, List.mem_append, List.mem_singleton] at hx
      rcases hx with hx | rfl
      · exact F.keys x hx
      · exact ⟨kl, hkey⟩) with ⟨g1, g2⟩ | ⟨j, e1, g1, g2, g3⟩
    · exact absurd rfl (g2 ⟨key, v0, clock⟩ (by simp))
    · have hm := List.mem_of_getElem? g2
      simp only [Array.toList_push, List.mem_append, List.mem_singleton] at hm
      have hv : e1.val = v0 := by
        rcases hm with hm | rfl
        · exact absurd g3 (h2 e1 hm)
        · rfl
      rw [hv] at g1
      simp [Instr.lookup, run_underlying ht, MapKept.run_getObj_map hb', K.check _ _ hkey, Result.andThen]
      simp at g1
      rw [g1]
      rfl
  · have hj : es[j]? = some e0 := by simpa using h2
    have hsame : es.modify j (fun e => { e with key := key }) = es := by
      apply Array.ext'
      rw [Array.toList_modify, modify_eq_set _ _ _ _ h2]
      have : ({ e0 with key := key } : MapEntry) = e0 := by rw [← h3]
      rw [this]
      exact set_self _ _ _ h2
    have hr : (Instr.mapEntry t (.map (some b)) key).run P w = .ok (.tuple #[e0.val, goInt e0.born]) (setBlock w b (.map es clock)) := by
      simp [Instr.mapEntry, run_underlying ht, MapKept.run_getObj_map hb, K.check w false hkey, h1, hj, h3, K.stays w hkey, hsame, MapKept.run_setObj_map _ hb, Result.andThen, setBlock]
    rw [hrun] at hr
    simp only [Result.ok.injEq, Value.tuple.injEq, Array.mk.injEq, List.cons.injEq] at hr
    obtain ⟨⟨rfl, _⟩, rfl⟩ := hr
    rw [setBlock_self hb]
    simp [Instr.lookup, run_underlying ht, MapKept.run_getObj_map hb, K.check _ _ hkey, h1, Result.andThen]

/-- 'counts[p]++': the entry, and what is stored there. -/
theorem CntIs.inc {W : World} {mb : Nat} {l : List (Int × Int)} (h : CntIs W mb l) {p : Int × Int} (hp : P64 p) (hl : l.length < 140737488355328) :
    ∃ (v0 : Value) (st : Nat) (W1 W2 : World), (Instr.mapEntry 64 (.map (some mb)) (pairV p)).run Try.prog W = .ok (.tuple #[v0, goInt st]) W1 ∧
      (Instr.entryStore 64 (.map (some mb)) (goInt st) (.int .i64 ((l.count p + 1 : Nat) : Int))).run Try.prog W1 = .ok () W2 ∧ CntIs W2 mb (l ++ [p]) ∧ Kept1 mb W W2 ∧ (Instr.lookup 64 (.map (some mb)) (pairV p) false).run Try.prog W1 = .ok (.int .i64 (l.count p : Int)) W1 := by
  have hlk := h.look hp
  obtain ⟨D, h1, h2, h3⟩ := h
  have hc : l.count p ≤ l.length := List.count_le_length
  obtain ⟨w', hr, ho, hturn⟩ := World.ownsMap.store h1 pLaw Try.underlying64 (by unfold maxLen; omega) (pkey_of hp) (plainElem_int (H := Unit) Try.underlying3 (WalkArith.wf_i64 (n := ((l.count p + 1 : Nat) : Int)) (by omega)))
  have tidy := World.ownsMap.tidy h1 pLaw
  obtain ⟨es, clock, hb, F, _, _⟩ := h1
  obtain ⟨v0, st, es1, clock1, hrun, hv0, hst⟩ := entry_then_store pKl Try.underlying64 zeroI hb F (pkey_of hp)
  obtain ⟨es', clock', hs1, hs2⟩ := hst (setBlock W mb (.map es1 clock1)) (.int .i64 ((l.count p + 1 : Nat) : Int)) (heap_setBlock_same hb _)
  have e : setBlock (setBlock W mb (.map es1 clock1)) mb (.map es' clock') = w' := by
    rw [hr] at hs2
    simp only [Result.ok.injEq, true_and] at hs2
    rw [hs2]
    simp [setBlock]
  refine ⟨v0, st, _, w', hrun, by rw [hs1, e], ⟨_, mapIs_of ho, ?_, fun q hq => ?_⟩, Kept1.of_grown hturn.grown, ?_⟩
  · rw [size_put tidy]
    simp only [List.length_append, List.length_singleton]
    split <;> omega
  · by_cases e : q = p
    · subst e
      obtain ⟨kk, e, hk⟩ := pkey_lit hq
      rw [e, atKey_put_same tidy.isMap hk, List.count_append]
      simp
    · rw [atKey_put_other (fun x => e (pkey_inj hq hp x)), h3 q hq, List.count_append]
      have : List.count q [p] = 0 := List.count_eq_zero.2 (by simpa using e)
      rw [this]
      simp
  · have hl2 := entry_look pKl Try.underlying64 zeroI hb F (pkey_of hp) hrun
    rw [hl2]
    have : v0 = .int .i64 (l.count p : Int) := by
      rcases Maps.fit_look false pLaw Try.underlying64 (zeroI W) hb F (pkey_of hp) with ⟨g1, g2, _⟩ | ⟨e0, y, g0, g1, g2, _⟩
      · rw [g1] at hlk
        simp only [Bool.false_eq_true, if_false, Result.ok.injEq, and_true] at hlk
        rcases hv0 with ⟨e1, m1, m2, m3⟩ | ⟨m1, m2⟩
        · exact absurd m2 (g2 e1 m1)
        · rw [m2, hlk]
      · rw [g2] at hlk
        simp only [Bool.false_eq_true, if_false, Result.ok.injEq, and_true] at hlk
        rcases hv0 with ⟨e1, m1, m2, m3⟩ | ⟨m1, m2⟩
        · obtain ⟨s1, s2, s3⟩ := F.stamped
          have : e1 = e0 := key_unique s3 m1 g0 (m2.trans g1.symm)
          rw [m3, this, hlk]
        · exact absurd g1 (m1 e0 g0)
    rw [this]

end Go.Proofs.Ytinphcnknionmab
