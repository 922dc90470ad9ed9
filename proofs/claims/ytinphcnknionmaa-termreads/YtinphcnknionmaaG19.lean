/- Package term: takeOut. Package term: the parser, plainly. Package term: the parser's counts; reader and bank together. -/
import Derived.Test.YtinphcnknionmaaG18
namespace Go.Proofs.Ytinphcnknionmaa
open Go.RowKit Go.Maps

/-- 'firsts[n]' without ok. -/
theorem Says.look1 {w : World} {k t : TypeId} {b : Nat} {D : DataW Unit} {key : Value} {kl : Lit} {o : Option Nat} (h : mapIs w k b D) (S : Says D kl o) (K : Keyed Try.prog k) (ht : Try.prog.underlying t = some (.map k 3)) (hkey : keyOf Try.prog k key = some kl) :
    (Instr.lookup t (.map (some b)) key false).run Try.prog w = .ok (.int .i64 ((o.getD 0 : Nat) : Int)) w := by
  obtain ⟨c, hrun, hat, _⟩ := World.ownsMap.lookup_int h K ht Try.underlying3 (zeroI w) hkey
  rw [S.2] at hat
  simp at hat
  rw [hrun, hat]

theorem Bq.dropN {w : World} {base p : Nat} {ev : Value} {nb fb : Nat} {l : List Tm} {Dn Df : DataW Unit} (h : Bq w base p ev nb fb l Dn Df) {t : Tm} (ht : t.ok) (ty : TypeId) :
    ∃ w', (Builtin.delete_ #[101, 124] ty #[.map (some nb), entryV t]).run Try.prog w = .ok (.tuple #[]) w' ∧ Bq w' base p ev nb fb l (Dn.del (ekey t)) Df ∧ Kept1 nb w w' := by
  obtain ⟨w', hr, ho, hturn⟩ := World.ownsMap.drop h.nums tLaw Try.underlying101 (ekey_of ht) ty
  have g := hturn.grown
  exact ⟨w', hr, ⟨h.bank.of_block (g.block p h.bank.lt (by simpa using h.pn)), h.rows.kept g (Or.inr h.en), mapIs_of ho, World.ownsMap.kept h.fsts g (by simpa using Ne.symm h.nf), h.pn, h.pf, h.nf, h.ep, h.en, h.ef, h.bp, h.bn, h.bf⟩, Kept1.of_grown g⟩

theorem Bq.dropF {w : World} {base p : Nat} {ev : Value} {nb fb : Nat} {l : List Tm} {Dn Df : DataW Unit} (h : Bq w base p ev nb fb l Dn Df) {s : ByteArray} (ht : s.size ≤ 6) (ty : TypeId) :
    ∃ w', (Builtin.delete_ #[102, 9] ty #[.map (some fb), .string s]).run Try.prog w = .ok (.tuple #[]) w' ∧ Bq w' base p ev nb fb l Dn (Df.del (skey s)) ∧ Kept1 fb w w' := by
  obtain ⟨w', hr, ho, hturn⟩ := World.ownsMap.drop h.fsts sLaw Try.underlying102 (skey_of ht) ty
  have g := hturn.grown
  exact ⟨w', hr, ⟨h.bank.of_block (g.block p h.bank.lt (by simpa using h.pf)), h.rows.kept g (Or.inr h.ef), World.ownsMap.kept h.nums g (by simpa using h.nf), mapIs_of ho, h.pn, h.pf, h.nf, h.ep, h.en, h.ef, h.bp, h.bn, h.bf⟩, Kept1.of_grown g⟩

theorem Bq.at {w : World} {base p : Nat} {ev : Value} {nb fb : Nat} {l : List Tm} {Dn Df : DataW Unit} (h : Bq w base p ev nb fb l Dn Df) {i : Nat} {t : Tm} (hi : l[i]? = some t) :
    ∃ g cap, ev = .slice (some ⟨g, 0, none⟩) l.length cap ∧ ∀ j u, (entryL t)[j]? = some u → w.cell? ⟨g, i * 6 + j, none⟩ = some u := by
  have hlt : i < l.length := (List.getElem?_eq_some_iff.1 hi).1
  rcases h.rows.2 with ⟨e, h0⟩ | ⟨b, cap, cur, e, _⟩
  · omega
  · refine ⟨b, cap, e, fun j u hj => ?_⟩
    have hj6 : j < 6 := by have := (List.getElem?_eq_some_iff.1 hj).1; simpa [entryL] using this
    have := h.rows.cells (g := b) (by rw [e]; rfl) (i * 6 + j) u (by rw [flat_getElem l i j hj6, hi]; exact hj)
    simp [Addr.add] at this
    split at this
    · next e0 => rw [e0.1, e0.2]; exact this
    · exact this

theorem Bq.grown {w w' : World} {base p : Nat} {ev : Value} {nb fb : Nat} {l : List Tm} {Dn Df : DataW Unit} {row : Option Nat} (h : Bq w base p ev nb fb l Dn Df) (K : w.grownBy w' row) (hp : some p ≠ row) (hn : some nb ≠ row) (hf : some fb ≠ row) (he : row = none ∨ ev.ownBlock ≠ row) : Bq w' base p ev nb fb l Dn Df :=
  ⟨h.bank.of_block (K.block p h.bank.lt hp), h.rows.kept K (he.elim (fun e => e ▸ Decidable.em (ev.ownBlock = none)) Or.inr), World.ownsMap.kept h.nums K hn, World.ownsMap.kept h.fsts K hf, h.pn, h.pf, h.nf, h.ep, h.en, h.ef, h.bp, h.bn, h.bf⟩
theorem Bq.kept0 {w w' : World} {base p : Nat} {ev : Value} {nb fb : Nat} {l : List Tm} {Dn Df : DataW Unit} (h : Bq w base p ev nb fb l Dn Df) (K : Kept0 w w') : Bq w' base p ev nb fb l Dn Df :=
  h.grown K.grownBy (by simp) (by simp) (by simp) (Or.inl rfl)

theorem Kept.setCells {S : Nat → Prop} {a : World} {g : Nat} (hg : S g) : ∀ (vs : List Value) (o : Nat) (w : World), Kept S a w → Kept S a (w.setCells g o vs)
  | [], _, _, h => h
  | v :: vs, o, _, h => Kept.setCells hg vs (o + 1) _ (Kept.setCell (p := ⟨g, o, none⟩) h hg v)

theorem flat_take (l r : List Tm) : ((l ++ r).flatMap entryL).take (l.length * 6) = l.flatMap entryL := by
  have hl : (l.flatMap entryL).length = l.length * 6 := by
    induction l with
    | nil => rfl
    | cons t l ih => rw [List.flatMap_cons, List.length_append, ih]; simp [entryL]; omega
  rw [List.flatMap_append, ← hl, List.take_left]

/-- The row is cut behind l. -/
theorem Bq.cut {w : World} {base p g ec : Nat} {nb fb : Nat} {l r : List Tm} {Dn Df : DataW Unit} (h : Bq w base p (.slice (some ⟨g, 0, none⟩) (l ++ r).length ec) nb fb (l ++ r) Dn Df) (vs : List Value) :
    Bq ((w.setCells g (l.length * 6) vs).setCell ⟨p, 0, none⟩ (.slice (some ⟨g, 0, none⟩) l.length ec)) base p (.slice (some ⟨g, 0, none⟩) l.length ec) nb fb l Dn Df ∧
      Kept (BFoot p (.slice (some ⟨g, 0, none⟩) (l ++ r).length ec) nb fb) w ((w.setCells g (l.length * 6) vs).setCell ⟨p, 0, none⟩ (.slice (some ⟨g, 0, none⟩) l.length ec)) ∧
      (w.setCells g (l.length * 6) vs).cell? ⟨p, 0, none⟩ = some (.slice (some ⟨g, 0, none⟩) (l ++ r).length ec) ∧ (w.setCells g (l.length * 6) vs).frozen? ⟨p, 0, none⟩ = false := by
  obtain ⟨R0, hle⟩ := RowTo.of h.rows (k := l.length) (by simp)
  rw [flat_take] at R0
  have R1 := RowTo.sets vs (l.length * 6) w R0 (Nat.le_refl _)
  have hgp : p ≠ g := fun e => h.ep (by rw [e]; rfl)
  have hgn : nb ≠ g := fun e => h.en (by rw [e]; rfl)
  have hgf : fb ≠ g := fun e => h.ef (by rw [e]; rfl)
  have K1 : Kept1 g w (w.setCells g (l.length * 6) vs) := Kept.setCells (S := fun k => k = g) rfl vs _ w (Kept.refl _ w)
  have hb : (w.setCells g (l.length * 6) vs).rowIs p 105 3 (bankC (.slice (some ⟨g, 0, none⟩) (l ++ r).length ec) nb fb) := h.bank.of_block (K1.block p h.bank.lt hgp)
  have n1 : mapIs (w.setCells g (l.length * 6) vs) 124 nb Dn := World.ownsMap.kept h.nums K1.grownBy (by simpa using hgn)
  have f1 : mapIs (w.setCells g (l.length * 6) vs) 9 fb Df := World.ownsMap.kept h.fsts K1.grownBy (by simpa using hgf)
  have r1 := R1.owns (by simp at hle; omega)
  refine ⟨⟨(hb.set 0 _).congr ?_, ownsRow_setCell_other (a := ⟨p, 0, none⟩) r1 h.ep _, World.ownsMap.setCell n1 (Ne.symm h.pn) _, World.ownsMap.setCell f1 (Ne.symm h.pf) _, h.pn, h.pf, h.nf, h.ep, h.en, h.ef, h.bp, h.bn, h.bf⟩, ?_, hb.cell (i := 0) (by omega), hb.frozen 0⟩
  · intro i hi
    rcases (by omega : i = 0 ∨ i = 1 ∨ i = 2) with rfl | rfl | rfl <;> simp [bankC]
  · exact Kept.setCell (S := BFoot p (.slice (some ⟨g, 0, none⟩) (l ++ r).length ec) nb fb) (p := ⟨p, 0, none⟩) (Kept.mono K1 (fun k _ x => Or.inr (Or.inr (Or.inr (by rw [x]; rfl))))) (Or.inl rfl) _

theorem Bq.reset {w : World} {base p : Nat} {ev : Value} {nb fb : Nat} {l : List Tm} {Dn Df : DataW Unit} (h : Bq w base p ev nb fb l Dn Df) : Bq (w.setCell ⟨p, 0, none⟩ ev) base p ev nb fb l Dn Df := by
  refine ⟨(h.bank.set 0 ev).congr ?_, ownsRow_setCell_other (a := ⟨p, 0, none⟩) h.rows h.ep _, World.ownsMap.setCell h.nums (Ne.symm h.pn) _, World.ownsMap.setCell h.fsts (Ne.symm h.pf) _, h.pn, h.pf, h.nf, h.ep, h.en, h.ef, h.bp, h.bn, h.bf⟩
  intro i hi
  rcases (by omega : i = 0 ∨ i = 1 ∨ i = 2) with rfl | rfl | rfl <;> simp [bankC]

theorem RowTo.row {w : World} {base g cap k : Nat} {xs : List Value} (h : RowTo w base g cap k xs) : ∃ f, w.rowIs g 124 (cap * 6) f := by
  obtain ⟨cur, _, h2, _, h4, _⟩ := h
  refine ⟨fun i => cur[i]?.getD undef, cur, h2, h4, ?_⟩
  intro i hi
  have hc : i < cur.size := by omega
  simp [Array.getElem?_eq_getElem hc]

theorem zeros_one (n : Nat) : ∀ v ∈ (Builtin.zeroCells (Value.agg #[.string ⟨#[]⟩, .int .i64 0, .int .i64 0, .int .i64 0, .int .i64 0, .int .i64 0]).cells n).toList, v.oneCell' = true := by
  intro v hv
  simp [Builtin.zeroCells, Value.cells] at hv
  obtain ⟨i, _, rfl⟩ := hv
  rcases (by omega : i % 6 = 0 ∨ i % 6 = 1 ∨ i % 6 = 2 ∨ i % 6 = 3 ∨ i % 6 = 4 ∨ i % 6 = 5) with e | e | e | e | e | e <;> rw [e] <;> rfl
theorem zeros_len (n : Nat) : (Builtin.zeroCells (Value.agg #[.string ⟨#[]⟩, .int .i64 0, .int .i64 0, .int .i64 0, .int .i64 0, .int .i64 0]).cells n).toList.length = n * 6 := by
  simp [Builtin.zeroCells, Value.cells]

theorem run_clear_none {P : Program} (w : World) (t e ty : TypeId) (ht : P.underlying t = some (.slice e)) (a : Option Addr) (c : Nat) : (Builtin.clear_ #[t] ty #[.slice a 0 c]).run P w = .ok (.tuple #[]) w := by
  cases a <;> simp [Builtin.clear_, run_underlying ht]

set_option maxHeartbeats 1000000 in
theorem takeOut_in (w : World) (base p : Nat) (ev : Value) (nb fb : Nat) (l r : List Tm) (h : Bk w base p ev nb fb (l ++ r)) :
    Calls Try.prog 109 #[.pointer (some ⟨p, 0, none⟩), .int .i64 (l.length : Int)] w fun e w' => e = .returned (.tuple #[]) ∧ ∃ ev', Bk w' base p ev' nb fb l ∧ ev'.ownBlock = ev.ownBlock ∧ Kept (BFoot p ev nb fb) w w' := by
  have hsm := h.small
  have hoks := h.oks
  have hnd := h.nodup
  obtain ⟨ea, ec, rfl⟩ := h.eform
  obtain ⟨Dn, Df, hq, T⟩ := h.split
  clear h
  rw [List.length_append] at hsm
  go_enter Try.func109, Try.ntmps109
  go_wp2_with fail
  go_loopw [4] (fun t W => ∃ j : Nat, j ≤ r.length ∧ t = .int .i64 ((l.length + j : Nat) : Int) ∧ ∃ Dn Df, Bq W base p (.slice ea (l ++ r).length ec) nb fb (l ++ r) Dn Df ∧ Out l r j Dn Df ∧ Hid (Kept (BFoot p (.slice ea (l ++ r).length ec) nb fb) w W)) (fun t _ => (l ++ r).length - (intOf t).toNat)
  case atStart => exact ⟨0, by omega, by simp, Dn, Df, hq, Out.start T, Kept.refl _ w⟩
  case round =>
    clear hq T Dn Df
    obtain ⟨j, hj, rfl, Dn, Df, Q, O, K⟩ := hrel
    have c0 : wr.cell? ⟨p, 0, none⟩ = some (.slice ea (l ++ r).length ec) := Q.bank.cell (by omega)
    have c1 : wr.cell? ⟨p, 1, none⟩ = some (.map (some nb)) := Q.bank.cell (i := 1) (by omega)
    have c2 : wr.cell? ⟨p, 2, none⟩ = some (.map (some fb)) := Q.bank.cell (i := 2) (by omega)
    have hll : (l ++ r).length = l.length + r.length := List.length_append
    by_cases hjr : j < r.length
    · have hre : r[j]? = some r[j] := List.getElem?_eq_getElem hjr
      generalize hgen : r[j] = e at hre
      have hae : (l ++ r)[l.length + j]? = some e := by rw [List.getElem?_append_right (by omega)]; simpa using hre
      have hok : e.ok := hoks e (List.mem_of_getElem? hae)
      obtain ⟨g, cap, hgc, hg⟩ := Q.at hae
      injection hgc with hg1 _ hg3
      subst hg1
      subst hg3
      have g0 : wr.cell? ⟨g, (l.length + j) * 6, none⟩ = some (.string e.name) := hg 0 _ rfl
      have g1 := hg 1 _ rfl
      have g2 := hg 2 _ rfl
      have g3 := hg 3 _ rfl
      have g4 := hg 4 _ rfl
      have g5 := hg 5 _ rfl
      clear hg
      go_wp2_with fail
      clear g0 g1 g2 g3 g4 g5 c0 c1 c2
      have bR := boxed_row wr e
      have hEL : (entryL e).toArray = #[.string e.name, .int .i64 (e.args.length : Int), .int .i64 (e.arg 0 : Int), .int .i64 (e.arg 1 : Int), .int .i64 (e.arg 2 : Int), .int .i64 (e.arg 3 : Int)] := rfl
      rw [hEL] at bR
      generalize hw1 : wr.alloc (Obj.cells #[.string e.name, .int .i64 (e.args.length : Int), .int .i64 (e.arg 0 : Int), .int .i64 (e.arg 1 : Int), .int .i64 (e.arg 2 : Int), .int .i64 (e.arg 3 : Int)] 124) = w1 at bR ⊢
      have K1 : Kept0 wr w1 := hw1 ▸ Kept.alloc (Kept.refl _ wr) _
      clear hw1
      have Q1 := Q.kept0 K1
      have hnl := World.ownsMap.lt Q.nums
      have hfl := World.ownsMap.lt Q.fsts
      generalize wr.heap.size = bx at *
      have c1 : w1.cell? ⟨p, 1, none⟩ = some (.map (some nb)) := Q1.bank.cell (i := 1) (by omega)
      have y0 := bR.c0
      have y1 := bR.c1
      have y2 := bR.c2
      have y3 := bR.c3
      have y4 := bR.c4
      have y5 := bR.c5
      obtain ⟨w2, hr2, Q2, K2⟩ := Bq.dropN Q1.drew hok 0
      simp only [entryV, hEL] at hr2
      go_region
      clear hr2 y0 y1 y2 y3 y4 y5 c1
      have b2 : Boxed w2 bx e := World.rowIs.of_block (World.rowIs.of_block bR rfl : Boxed w1.drew bx e) (K2.block bx (World.rowIs.lt bR) (by omega))
      have y0 := b2.c0
      have c2 : w2.cell? ⟨p, 2, none⟩ = some (.map (some fb)) := Q2.bank.cell (i := 2) (by omega)
      have LF := fun m => Says.look1 (Q2.drewN m).fsts (O.fsays e.name hok.name) sLaw Try.underlying102 (skey_of hok.name)
      have hlook := look_first (l := l) hre
      obtain ⟨N1, N2⟩ := O.nstep hnd hre hok (World.ownsMap.tidy Q.nums tLaw)
      generalize ((fst (l ++ r) e.name).filter (standsB l.length j)).getD 0 = f at *
      have KK : Kept (BFoot p (.slice (some ⟨g, 0, none⟩) (l ++ r).length ec) nb fb) w w2 := ((Kept.trans K (Kept.mono K1 (fun _ _ x => x.elim))).drew).trans (Kept.mono K2 (fun _ _ x => Or.inr (Or.inl x)))
      by_cases hf : f = l.length + j
      · have hf1 := hlook.1 hf
        have hb : ((f : Int) == (l.length : Int) + (j : Int)) = true := by simp; omega
        go_wp2_with fail
        go_quiet (fail)
        go_wp2_with fail
        have z0 : ∀ m, (w2.drewN m).cell? ⟨bx, 0, none⟩ = some (.string e.name) := fun m => y0
        have z2 : ∀ m, (w2.drewN m).cell? ⟨p, 2, none⟩ = some (.map (some fb)) := fun m => c2
        obtain ⟨F1, F2⟩ := O.fgone hre hok hf1 (World.ownsMap.tidy Q.fsts sLaw)
        obtain ⟨w3, hr3, Q3, K3⟩ := Bq.dropF (Q2.drewN (nq + 1)) hok.name 0
        go_region
        all_goals
          go_wp2_with fail
          refine ⟨⟨j + 1, by omega, by simp; omega, _, _, Q3, ⟨N1, N2, F1, F2⟩, (Kept.drewN KK _).trans (Kept.mono K3 (fun _ _ x => Or.inr (Or.inr (Or.inl x))))⟩, ?_⟩
          simp only [intOf]
          omega
      · have hf1 : fst (l ++ r) e.name ≠ some (l.length + j) := fun x => hf (hlook.2 x)
        have hb : ((f : Int) == (l.length : Int) + (j : Int)) = false := by simp; omega
        go_wp2_with fail
        go_quiet (fail)
        go_wp2_with fail
        obtain ⟨F1, F2⟩ := O.fstays hre hf1
        refine ⟨⟨j + 1, by omega, by simp; omega, _, _, Q2.drewN nq, ⟨N1, N2, F1, F2⟩, Kept.drewN KK nq⟩, ?_⟩
        simp only [intOf]
        omega
    · have hjr' : j = r.length := by omega
      subst hjr'
      have TT := O.done (fun t ht => hoks t (List.mem_append_left r ht)) (List.nodup_append.1 hnd).1 (by omega)
      have f0 := Q.bank.frozen 0
      rcases Q.rows.2 with ⟨ee, h0⟩ | ⟨g, cap, cur, ee, _, _, hcap, hcm, _⟩
      · have hl0 : l = [] := List.eq_nil_of_length_eq_zero (by rw [hll] at h0; omega)
        have hr0 : r = [] := List.eq_nil_of_length_eq_zero (by rw [hll] at h0; omega)
        subst hl0
        subst hr0
        injection ee with e1 e2 e3
        subst e1
        subst e3
        have hcl := fun (a : Option Addr) (c : Nat) => run_clear_none (P := Try.prog) wr 103 124 0 Try.underlying103 a c
        go_wp2_with fail
        go_end0
        exact ⟨rfl, _, (Q.reset).whole TT, rfl, Kept.setCell (p := ⟨p, 0, none⟩) K (Or.inl rfl) _⟩
      · injection ee with e1 e2 e3
        subst e1
        subst e3
        obtain ⟨C1, C2, C3, C4⟩ := Q.cut []
        by_cases hr0 : r.length = 0
        · have hcl := fun (a : Option Addr) (c : Nat) => run_clear_none (P := Try.prog) wr 103 124 0 Try.underlying103 a c
          have hr00 : r = [] := List.eq_nil_of_length_eq_zero hr0
          subst hr00
          by_cases hec : l.length = ec
          · subst hec
            go_wp2_with fail
            go_end0
            exact ⟨rfl, _, C1.whole TT, rfl, Kept.trans K C2⟩
          · go_wp2_with fail
            go_end0
            exact ⟨rfl, _, C1.whole TT, rfl, Kept.trans K C2⟩
        · clear C1 C2 C3 C4
          have hcap' : l.length < ec := by rw [hll] at hcap; omega
          obtain ⟨FF, HF⟩ := (RowTo.of Q.rows (k := 0) (by omega)).1.row
          have CL : (Builtin.clear_ #[103] 0 #[.slice (some ⟨g, l.length * 6, none⟩) r.length (ec - l.length)]).run Try.prog wr = .ok (.tuple #[]) (wr.setCells g (l.length * 6) (Builtin.zeroCells (Value.agg #[.string ⟨#[]⟩, .int .i64 0, .int .i64 0, .int .i64 0, .int .i64 0, .int .i64 0]).cells r.length).toList) :=
            run_clear_many wr 103 124 0 _ Try.underlying103 Try.zeroValue124 g (l.length * 6) r.length _ (by omega) _ rfl (zeros_one _) (fun i hi => by rw [zeros_len] at hi; rw [World.rowIs.cell HF (by rw [hll] at hcap; omega)]; rfl) (fun i _ => World.rowIs.frozen HF _)
          generalize (Builtin.zeroCells (Value.agg #[.string ⟨#[]⟩, .int .i64 0, .int .i64 0, .int .i64 0, .int .i64 0, .int .i64 0]).cells r.length).toList = vs at CL
          obtain ⟨C1, C2, C3, C4⟩ := Q.cut vs
          have hne : ¬ l.length = ec := by omega
          go_wp2_with fail
          go_end0
          exact ⟨rfl, _, C1.whole TT, rfl, Kept.trans K C2⟩

end Go.Proofs.Ytinphcnknionmaa

namespace Go.Proofs.Ytinphcnknionmaa
open Go.RowKit Go.Maps

/-- What reading answers: a value and where it goes on, or an error and its place; the bank's terms behind it. -/
inductive Res (α : Type) where
  | ok (x : α) (i : Nat) (l : List Tm)
  | bad (e p : Nat) (l : List Tm)

def Res.list {α : Type} : Res α → List Tm
  | .ok _ _ l => l
  | .bad _ _ l => l

/-- A term has ended: its name began at p. -/
def pEnd (t : Tm) (p i : Nat) (l : List Tm) : Res Nat := if fitsB l t then .ok (addN l t) i (addL l t) else .bad 5 p l

mutual
def pTerm (s : ByteArray) : Nat → Nat → Nat → List Tm → Res Nat
  | 0, _, _, l => .bad 0 0 l
  | f + 1, above, i, l =>
    if badNm s i then .bad 2 i l
    else if 12 < above then .bad 4 i l
    else if stands s (bl s (nmE s i)) 40 then
      match pArgs s f (above + 1) (behind s (bl s (nmE s i)) 40) l [] with
      | .bad e p l' => .bad e p l'
      | .ok xs k l' => pEnd ⟨s.extract i (nmE s i), xs⟩ i k l'
    else pEnd ⟨s.extract i (nmE s i), []⟩ i (bl s (nmE s i)) l
def pArgs (s : ByteArray) : Nat → Nat → Nat → List Tm → List Nat → Res (List Nat)
  | 0, _, _, l, _ => .bad 0 0 l
  | f + 1, above, i, l, xs =>
    if i = s.size then .bad 2 i l
    else if xs.length = 4 then .bad 3 i l
    else match pTerm s f above i l with
      | .bad e p l' => .bad e p l'
      | .ok n k l' =>
        if stands s k 41 then .ok (xs ++ [n]) (behind s k 41) l'
        else if stands s k 44 then pArgs s f above (behind s k 44) l' (xs ++ [n])
        else .bad 2 k l'
end

theorem addL_prefix (l : List Tm) (t : Tm) : l <+: addL l t := by
  unfold addL
  split
  · exact List.prefix_refl l
  · exact List.prefix_append l [t]
theorem pEnd_prefix (t : Tm) (p i : Nat) (l : List Tm) : l <+: (pEnd t p i l).list := by
  unfold pEnd
  split
  · exact addL_prefix l t
  · exact List.prefix_refl l

theorem behind_le {s : ByteArray} {i c : Nat} (h : i ≤ s.size) : behind s i c ≤ s.size := by
  unfold behind
  split
  · next hs => exact bl_le (of_decide_eq_true hs).1
  · exact h
theorem behind_lt {s : ByteArray} {i c : Nat} (h : stands s i c = true) : i < behind s i c := by
  rw [behind_true h]
  have := bl_ge s (i + 1)
  omega
theorem nm_lt {s : ByteArray} {i : Nat} (h : badNm s i = false) : i < nmE s i := by
  have h1 := nmE_ge s i
  have h2 : nmE s i ≠ i := fun e => by simp [badNm, e] at h
  omega

/-- The list grows at its end alone; the places grow. -/
theorem p_grows (s : ByteArray) : ∀ f : Nat, (∀ above i l, i ≤ s.size → l <+: (pTerm s f above i l).list ∧ ∀ n k l', pTerm s f above i l = .ok n k l' → i < k ∧ k ≤ s.size) ∧
    (∀ above i l xs, i ≤ s.size → l <+: (pArgs s f above i l xs).list ∧ ∀ x k l', pArgs s f above i l xs = .ok x k l' → i < k ∧ k ≤ s.size)
  | 0 => ⟨fun _ _ l _ => ⟨by rw [pTerm]; exact List.prefix_refl l, fun _ _ _ e => by rw [pTerm] at e; cases e⟩, fun _ _ l _ _ => ⟨by rw [pArgs]; exact List.prefix_refl l, fun _ _ _ e => by rw [pArgs] at e; cases e⟩⟩
  | f + 1 => by
    obtain ⟨IT, IA⟩ := p_grows s f
    constructor
    · intro above i l hi
      rw [pTerm]
      split
      · exact ⟨List.prefix_refl l, fun _ _ _ e => by cases e⟩
      · next hb =>
        have hb' : badNm s i = false := by simpa using hb
        have h1 := nm_lt hb'
        have h2 := nmE_le hi
        have h3 := bl_ge s (nmE s i)
        have h4 := bl_le h2
        split
        · exact ⟨List.prefix_refl l, fun _ _ _ e => by cases e⟩
        · split
          · next hs =>
            have h5 := behind_lt hs
            have h6 := behind_le (c := 40) h4
            obtain ⟨A1, A2⟩ := IA (above + 1) (behind s (bl s (nmE s i)) 40) l [] h6
            split
            · next e p l' hx => rw [hx] at A1; exact ⟨A1, fun _ _ _ e => by cases e⟩
            · next xs k l' hx =>
              rw [hx] at A1
              obtain ⟨B1, B2⟩ := A2 xs k l' hx
              refine ⟨A1.trans (pEnd_prefix _ _ _ _), fun n k' l2 e => ?_⟩
              unfold pEnd at e
              split at e
              · injection e with e1 e2 e3; omega
              · cases e
          · refine ⟨pEnd_prefix _ _ _ _, fun n k' l2 e => ?_⟩
            unfold pEnd at e
            split at e
            · injection e with e1 e2 e3; omega
            · cases e
    · intro above i l xs hi
      rw [pArgs]
      split
      · exact ⟨List.prefix_refl l, fun _ _ _ e => by cases e⟩
      · split
        · exact ⟨List.prefix_refl l, fun _ _ _ e => by cases e⟩
        · obtain ⟨A1, A2⟩ := IT above i l hi
          split
          · next e p l' hx => rw [hx] at A1; exact ⟨A1, fun _ _ _ e => by cases e⟩
          · next n k l' hx =>
            rw [hx] at A1
            obtain ⟨B1, B2⟩ := A2 n k l' hx
            split
            · next hs =>
              have h5 := behind_lt hs
              have h6 := behind_le (c := 41) B2
              refine ⟨A1, fun x k' l2 e => ?_⟩
              injection e with e1 e2 e3
              omega
            · split
              · next hs =>
                have h5 := behind_lt hs
                obtain ⟨C1, C2⟩ := IA above (behind s k 44) l' (xs ++ [n]) (behind_le B2)
                refine ⟨A1.trans C1, fun x k' l2 e => ?_⟩
                obtain ⟨D1, D2⟩ := C2 x k' l2 e
                omega
              · exact ⟨A1, fun _ _ _ e => by cases e⟩

end Go.Proofs.Ytinphcnknionmaa

namespace Go.Proofs.Ytinphcnknionmaa
open Go.RowKit Go.Maps

theorem nix_lt {l : List Tm} {t : Tm} {i : Nat} (h : nix l t = some i) : i < l.length := (List.findIdx?_eq_some_iff_getElem.1 h).1
theorem addN_lt (l : List Tm) (t : Tm) : addN l t < (addL l t).length := by
  unfold addN addL
  cases hi : nix l t with
  | some i => simpa using nix_lt hi
  | none => simp
theorem addL_len (l : List Tm) (t : Tm) : (addL l t).length ≤ l.length + 1 := by
  unfold addL
  split <;> simp
theorem addL_ge (l : List Tm) (t : Tm) : l.length ≤ (addL l t).length := (addL_prefix l t).length_le

/-- A term adds no more terms than it has bytes. -/
theorem p_count (s : ByteArray) : ∀ f : Nat,
    (∀ above i l n k l', i ≤ s.size → pTerm s f above i l = .ok n k l' → l'.length + i ≤ l.length + k ∧ n < l'.length) ∧
    (∀ above i l xs x k l', i ≤ s.size → xs.length ≤ 4 → (∀ a ∈ xs, a < l.length) → pArgs s f above i l xs = .ok x k l' → l'.length + i ≤ l.length + k ∧ x.length ≤ 4 ∧ ∀ a ∈ x, a < l'.length)
  | 0 => ⟨fun _ _ _ _ _ _ _ e => (by rw [pTerm] at e; cases e), fun _ _ _ _ _ _ _ _ _ _ e => (by rw [pArgs] at e; cases e)⟩
  | f + 1 => by
    obtain ⟨IT, IA⟩ := p_count s f
    obtain ⟨GT, GA⟩ := p_grows s f
    constructor
    · intro above i l n k l' hi e
      rw [pTerm] at e
      split at e
      · cases e
      · next hb =>
        have hb' : badNm s i = false := by simpa using hb
        have h1 := nm_lt hb'
        have h2 := nmE_le hi
        have h3 := bl_ge s (nmE s i)
        have h4 := bl_le h2
        split at e
        · cases e
        · split at e
          · next hs =>
            have h5 := behind_lt hs
            have h6 := behind_le (c := 40) h4
            split at e
            · cases e
            · next xs k2 l2 hx =>
              obtain ⟨A1, A2, A3⟩ := IA _ _ _ _ _ _ _ h6 (by simp) (by simp) hx
              unfold pEnd at e
              split at e
              · injection e with e1 e2 e3
                subst e1 e2 e3
                have := addL_len l2 ⟨s.extract i (nmE s i), xs⟩
                exact ⟨by omega, addN_lt _ _⟩
              · cases e
          · unfold pEnd at e
            split at e
            · injection e with e1 e2 e3
              subst e1 e2 e3
              have := addL_len l ⟨s.extract i (nmE s i), []⟩
              exact ⟨by omega, addN_lt _ _⟩
            · cases e
    · intro above i l xs x k l' hi hx4 hxs e
      rw [pArgs] at e
      split at e
      · cases e
      · split at e
        · cases e
        · next hn4 =>
          split at e
          · cases e
          · next n k2 l2 hx =>
            obtain ⟨A1, A2⟩ := IT _ _ _ _ _ _ hi hx
            obtain ⟨B0, B1⟩ := GT above i l hi
            obtain ⟨B2, B3⟩ := B1 n k2 l2 hx
            rw [hx] at B0
            have B4 : l.length ≤ l2.length := B0.length_le
            have hxs2 : ∀ a ∈ xs ++ [n], a < l2.length := by
              intro a ha
              rcases List.mem_append.1 ha with ha | ha
              · exact Nat.lt_of_lt_of_le (hxs a ha) B4
              · rw [List.mem_singleton.1 ha]; exact A2
            have hl4 : (xs ++ [n]).length ≤ 4 := by simp; omega
            split at e
            · next hs =>
              have h5 := behind_lt hs
              injection e with e1 e2 e3
              subst e1 e2 e3
              exact ⟨by omega, hl4, hxs2⟩
            · split at e
              · next hs =>
                have h5 := behind_lt hs
                obtain ⟨C1, C2, C3⟩ := IA _ _ _ _ _ _ _ (behind_le B3) hl4 hxs2 e
                exact ⟨by omega, C2, C3⟩
              · cases e

/-- What may change: what is told, and the bank. -/
def RFoot (X : Nat → Prop) (p : Nat) (ev : Value) (nb fb k : Nat) : Prop := X k ∨ BFoot p ev nb fb k

/-- A reader at r over the bank at p. -/
structure RB (w : World) (base r p : Nat) (ev : Value) (nb fb : Nat) (s : ByteArray) (i : Nat) (l : List Tm) : Prop where
  rd : Rd w r (.pointer (some ⟨p, 0, none⟩)) s i
  bk : Bk w base p ev nb fb l
  rp : r ≠ p
  rn : r ≠ nb
  rf : r ≠ fb
  er : ev.ownBlock ≠ some r
  bs : base ≤ w.heap.size

/-- From (w, ev) to (w', ev'): what was there and is not of X or the bank's has stayed; the row stayed or is new. -/
structure Grew (X : Nat → Prop) (p nb fb : Nat) (w : World) (ev : Value) (w' : World) (ev' : Value) : Prop where
  kept : Kept (RFoot X p ev nb fb) w w'
  row : ev'.ownBlock = ev.ownBlock ∨ ∀ k, ev'.ownBlock = some k → w.heap.size ≤ k

theorem Grew.refl (X : Nat → Prop) (p nb fb : Nat) (w : World) (ev : Value) : Grew X p nb fb w ev w ev := ⟨Kept.refl _ w, Or.inl rfl⟩
theorem Grew.mono {X Y : Nat → Prop} {p nb fb : Nat} {a b : World} {ea eb : Value} (h : Grew X p nb fb a ea b eb) (hXY : ∀ k, k < a.heap.size → X k → Y k) : Grew Y p nb fb a ea b eb :=
  ⟨Kept.mono h.kept (fun k hk e => e.elim (fun x => Or.inl (hXY k hk x)) Or.inr), h.row⟩
theorem Grew.trans {X : Nat → Prop} {p nb fb : Nat} {a b c : World} {ea eb ec : Value} (h : Grew X p nb fb a ea b eb) (k : Grew X p nb fb b eb c ec) : Grew X p nb fb a ea c ec := by
  refine ⟨⟨k.kept.os.trans h.kept.os, k.kept.tape.trans h.kept.tape, k.kept.output.trans h.kept.output, Nat.le_trans h.kept.size k.kept.size, ?_⟩, ?_⟩
  · intro x hx hs
    rw [k.kept.block x (Nat.lt_of_lt_of_le hx h.kept.size) ?_]
    · exact h.kept.block x hx hs
    · intro hr
      apply hs
      rcases hr with e | e | e | e | e
      · exact Or.inl e
      · exact Or.inr (Or.inl e)
      · exact Or.inr (Or.inr (Or.inl e))
      · exact Or.inr (Or.inr (Or.inr (Or.inl e)))
      · rcases h.row with e2 | e2
        · exact Or.inr (Or.inr (Or.inr (Or.inr (e2 ▸ e))))
        · have := e2 x e; omega
  · rcases k.row with e | e
    · rcases h.row with e2 | e2
      · exact Or.inl (e.trans e2)
      · exact Or.inr fun x hx => e2 x (e ▸ hx)
    · exact Or.inr fun x hx => Nat.le_trans h.kept.size (e x hx)
theorem Grew.setCell {X : Nat → Prop} {p nb fb : Nat} {a b : World} {ea eb : Value} (h : Grew X p nb fb a ea b eb) {x o : Nat} (hx : X x) (u : Value) : Grew X p nb fb a ea (b.setCell ⟨x, o, none⟩ u) eb :=
  ⟨Kept.setCell (p := ⟨x, o, none⟩) h.kept (Or.inl hx) u, h.row⟩
theorem Grew.drewN {X : Nat → Prop} {p nb fb : Nat} {a b : World} {ea eb : Value} (h : Grew X p nb fb a ea b eb) (m : Nat) : Grew X p nb fb a ea (b.drewN m) eb := ⟨Kept.drewN h.kept m, h.row⟩

/-- The reader alone has gone on. -/
theorem RB.read {w w' : World} {base r p : Nat} {ev : Value} {nb fb : Nat} {s : ByteArray} {i k : Nat} {l : List Tm} (h : RB w base r p ev nb fb s i l) (K : Kept1 r w w') (hR : Rd w' r (.pointer (some ⟨p, 0, none⟩)) s k) :
    RB w' base r p ev nb fb s k l ∧ Grew (fun k => k = r) p nb fb w ev w' ev :=
  ⟨⟨hR, h.bk.kept1 K (Ne.symm h.rp) (Ne.symm h.rn) (Ne.symm h.rf) h.er, h.rp, h.rn, h.rf, h.er, Nat.le_trans h.bs K.size⟩, ⟨Kept.mono K (fun _ _ e => Or.inl e), Or.inl rfl⟩⟩

theorem Rd.of_block {w w' : World} {r : Nat} {bp : Value} {s : ByteArray} {i : Nat} (h : Rd w r bp s i) (hb : w'.heap[r]? = w.heap[r]?) : Rd w' r bp s i := ⟨h.row.of_block hb, h.le, h.small⟩

/-- The bank alone has changed. -/
theorem RB.banked {w w' : World} {base r p : Nat} {ev ev' : Value} {nb fb : Nat} {s : ByteArray} {i : Nat} {l l' : List Tm} (h : RB w base r p ev nb fb s i l) (K : Kept (BFoot p ev nb fb) w w') (hB : Bk w' base p ev' nb fb l') (hr : ev'.ownBlock = ev.ownBlock ∨ ∀ k, ev'.ownBlock = some k → w.heap.size ≤ k) :
    RB w' base r p ev' nb fb s i l' ∧ Grew (fun k => k = r) p nb fb w ev w' ev' := by
  have hrl := h.rd.row.lt
  refine ⟨⟨h.rd.of_block (K.block r hrl ?_), hB, h.rp, h.rn, h.rf, ?_, Nat.le_trans h.bs K.size⟩, ⟨Kept.mono K (fun _ _ e => Or.inr e), hr⟩⟩
  · rintro (e | e | e | e)
    · exact h.rp e
    · exact h.rn e
    · exact h.rf e
    · exact h.er e
  · rcases hr with e | e
    · rw [e]; exact h.er
    · intro e2
      have := e r e2
      omega

theorem RB.kept0 {w w' : World} {base r p : Nat} {ev : Value} {nb fb : Nat} {s : ByteArray} {i : Nat} {l : List Tm} (h : RB w base r p ev nb fb s i l) (K : Kept0 w w') : RB w' base r p ev nb fb s i l ∧ Grew (fun k => k = r) p nb fb w ev w' ev :=
  h.banked (Kept.mono K (fun _ _ e => e.elim)) (h.bk.kept0 K) (Or.inl rfl)
theorem RB.drewN {w : World} {base r p : Nat} {ev : Value} {nb fb : Nat} {s : ByteArray} {i : Nat} {l : List Tm} (h : RB w base r p ev nb fb s i l) (m : Nat) : RB (w.drewN m) base r p ev nb fb s i l :=
  ⟨h.rd.drewN m, h.bk.drewN m, h.rp, h.rn, h.rf, h.er, h.bs⟩

/-- And an entry that is being read, at x. -/
structure RX (w : World) (base r p : Nat) (ev : Value) (nb fb : Nat) (s : ByteArray) (i : Nat) (l : List Tm) (x : Nat) (t : Tm) : Prop where
  rb : RB w base r p ev nb fb s i l
  box : Boxed w x t
  xr : x ≠ r
  xp : x ≠ p
  xn : x ≠ nb
  xf : x ≠ fb
  ex : ev.ownBlock ≠ some x

theorem RX.drewN {w : World} {base r p : Nat} {ev : Value} {nb fb : Nat} {s : ByteArray} {i : Nat} {l : List Tm} {x : Nat} {t : Tm} (h : RX w base r p ev nb fb s i l x t) (m : Nat) : RX (w.drewN m) base r p ev nb fb s i l x t :=
  ⟨h.rb.drewN m, World.rowIs.of_block h.box rfl, h.xr, h.xp, h.xn, h.xf, h.ex⟩
theorem RX.grew {w w' : World} {base r p : Nat} {ev ev' : Value} {nb fb : Nat} {s : ByteArray} {i k : Nat} {l l' : List Tm} {x : Nat} {t : Tm} (h : RX w base r p ev nb fb s i l x t) (G : Grew (fun k => k = r) p nb fb w ev w' ev') (R : RB w' base r p ev' nb fb s k l') : RX w' base r p ev' nb fb s k l' x t := by
  have hlt := World.rowIs.lt h.box
  refine ⟨R, World.rowIs.of_block h.box (G.kept.block x hlt ?_), h.xr, h.xp, h.xn, h.xf, ?_⟩
  · rintro (e | e | e | e | e)
    · exact h.xr e
    · exact h.xp e
    · exact h.xn e
    · exact h.xf e
    · exact h.ex e
  · rcases G.row with e | e
    · rw [e]; exact h.ex
    · intro e2
      have := e x e2
      omega

theorem RB.setOther {w : World} {base r p : Nat} {ev : Value} {nb fb : Nat} {s : ByteArray} {i : Nat} {l : List Tm} (h : RB w base r p ev nb fb s i l) {x : Nat} (xr : x ≠ r) (xp : x ≠ p) (xn : x ≠ nb) (xf : x ≠ fb) (ex : ev.ownBlock ≠ some x) (o : Nat) (u : Value) : RB (w.setCell ⟨x, o, none⟩ u) base r p ev nb fb s i l := by
  have K : Kept1 x w (w.setCell ⟨x, o, none⟩ u) := Kept1.set (Kept.refl _ w) o u
  exact ⟨h.rd.of_block (K.block r h.rd.row.lt (fun e => xr e.symm)), h.bk.kept1 K (Ne.symm xp) (Ne.symm xn) (Ne.symm xf) ex, h.rp, h.rn, h.rf, h.er, Nat.le_trans h.bs K.size⟩

/-- The entry has one more arg. -/
theorem RX.push {w : World} {base r p : Nat} {ev : Value} {nb fb : Nat} {s : ByteArray} {i : Nat} {l : List Tm} {x : Nat} {nm : ByteArray} {xs : List Nat} (h : RX w base r p ev nb fb s i l x ⟨nm, xs⟩) (h4 : xs.length < 4) (n : Nat) :
    RX ((w.setCell ⟨x, 2 + xs.length, none⟩ (.int .i64 (n : Int))).setCell ⟨x, 1, none⟩ (.int .i64 ((xs.length : Int) + 1))) base r p ev nb fb s i l x ⟨nm, xs ++ [n]⟩ := by
  refine ⟨(h.rb.setOther h.xr h.xp h.xn h.xf h.ex _ _).setOther h.xr h.xp h.xn h.xf h.ex _ _, ?_, h.xr, h.xp, h.xn, h.xf, h.ex⟩
  refine World.rowIs.congr (World.rowIs.set (World.rowIs.set h.box (2 + xs.length) (.int .i64 (n : Int))) 1 (.int .i64 ((xs.length : Int) + 1))) ?_
  intro j hj
  match xs, h4 with
  | [], _ => rcases (by omega : j = 0 ∨ j = 1 ∨ j = 2 ∨ j = 3 ∨ j = 4 ∨ j = 5) with rfl | rfl | rfl | rfl | rfl | rfl <;> rfl
  | [a], _ => rcases (by omega : j = 0 ∨ j = 1 ∨ j = 2 ∨ j = 3 ∨ j = 4 ∨ j = 5) with rfl | rfl | rfl | rfl | rfl | rfl <;> rfl
  | [a, b], _ => rcases (by omega : j = 0 ∨ j = 1 ∨ j = 2 ∨ j = 3 ∨ j = 4 ∨ j = 5) with rfl | rfl | rfl | rfl | rfl | rfl <;> rfl
  | [a, b, c], _ => rcases (by omega : j = 0 ∨ j = 1 ∨ j = 2 ∨ j = 3 ∨ j = 4 ∨ j = 5) with rfl | rfl | rfl | rfl | rfl | rfl <;> rfl
  | _ :: _ :: _ :: _ :: _, h4 => simp at h4; omega

end Go.Proofs.Ytinphcnknionmaa
