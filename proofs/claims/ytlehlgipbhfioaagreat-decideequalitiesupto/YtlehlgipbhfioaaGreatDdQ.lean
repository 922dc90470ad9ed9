/- Package decide: learnStep. -/
import Derived.Test.YtlehlgipbhfioaaGreatP47
namespace Go.Proofs.YtlehlgipbhfioaaGreat
open Go.RowKit Go.Maps

theorem skV_at {k : Pr × List Pr} {x0 x1 x2 x3 x4 x5 x6 x7 x8 x9 : Nat} (e : flat4 k.1 k.2 = [x0, x1, x2, x3, x4, x5, x6, x7, x8, x9]) : skV k = .agg #[.int .i64 (x0 : Int), .int .i64 (x1 : Int), .int .i64 (x2 : Int), .int .i64 (x3 : Int), .int .i64 (x4 : Int), .int .i64 (x5 : Int), .int .i64 (x6 : Int), .int .i64 (x7 : Int), .int .i64 (x8 : Int), .int .i64 (x9 : Int)] := by
  unfold skV
  rw [stpV_flat, e]
  rfl
/-- A step in a box. -/
def BxS (W : World) (sb : Nat) (x0 x1 x2 x3 x4 x5 x6 x7 x8 x9 : Nat) : Prop := W.rowIs sb 206 10 (fun j => ((#[.int .i64 (x0 : Int), .int .i64 (x1 : Int), .int .i64 (x2 : Int), .int .i64 (x3 : Int), .int .i64 (x4 : Int), .int .i64 (x5 : Int), .int .i64 (x6 : Int), .int .i64 (x7 : Int), .int .i64 (x8 : Int), .int .i64 (x9 : Int)] : Array Value)[j]?).getD undef)
theorem BxS.get {W : World} {sb x0 x1 x2 x3 x4 x5 x6 x7 x8 x9 : Nat} (h : BxS W sb x0 x1 x2 x3 x4 x5 x6 x7 x8 x9) : W.cell? ⟨sb, 0, none⟩ = some (.int .i64 (x0 : Int)) ∧ W.cell? ⟨sb, 1, none⟩ = some (.int .i64 (x1 : Int)) ∧ W.cell? ⟨sb, 2, none⟩ = some (.int .i64 (x2 : Int)) ∧ W.cell? ⟨sb, 3, none⟩ = some (.int .i64 (x3 : Int)) ∧ W.cell? ⟨sb, 4, none⟩ = some (.int .i64 (x4 : Int)) ∧ W.cell? ⟨sb, 5, none⟩ = some (.int .i64 (x5 : Int)) ∧ W.cell? ⟨sb, 6, none⟩ = some (.int .i64 (x6 : Int)) ∧ W.cell? ⟨sb, 7, none⟩ = some (.int .i64 (x7 : Int)) ∧ W.cell? ⟨sb, 8, none⟩ = some (.int .i64 (x8 : Int)) ∧ W.cell? ⟨sb, 9, none⟩ = some (.int .i64 (x9 : Int)) :=
  ⟨World.rowIs.cell h (i := 0) (by omega), World.rowIs.cell h (i := 1) (by omega), World.rowIs.cell h (i := 2) (by omega), World.rowIs.cell h (i := 3) (by omega), World.rowIs.cell h (i := 4) (by omega), World.rowIs.cell h (i := 5) (by omega), World.rowIs.cell h (i := 6) (by omega), World.rowIs.cell h (i := 7) (by omega), World.rowIs.cell h (i := 8) (by omega), World.rowIs.cell h (i := 9) (by omega)⟩
theorem BxS.made (w : World) (x0 x1 x2 x3 x4 x5 x6 x7 x8 x9 : Nat) : BxS (w.alloc (.cells #[.int .i64 (x0 : Int), .int .i64 (x1 : Int), .int .i64 (x2 : Int), .int .i64 (x3 : Int), .int .i64 (x4 : Int), .int .i64 (x5 : Int), .int .i64 (x6 : Int), .int .i64 (x7 : Int), .int .i64 (x8 : Int), .int .i64 (x9 : Int)] 206)) w.heap.size x0 x1 x2 x3 x4 x5 x6 x7 x8 x9 := made_row w _ 206
theorem BxS.pmx {W W' : World} {sb x0 x1 x2 x3 x4 x5 x6 x7 x8 x9 : Nat} (h : BxS W sb x0 x1 x2 x3 x4 x5 x6 x7 x8 x9) {pb vb kb : Nat} {bk tv fv lv lv' : Value} {P P' : Pb} {S S' : Nat → Prop} (hm : Pm S W pb vb kb bk tv fv lv P) (hx : PmX S W S' W' pb vb kb bk tv fv lv lv' P') : BxS W' sb x0 x1 x2 x3 x4 x5 x6 x7 x8 x9 := by
  obtain ⟨es, ck, e1⟩ := hm.vars.lt
  obtain ⟨es', ck', e2⟩ := hm.known.lt
  obtain ⟨rs, r1, _⟩ := hm.rows
  refine World.rowIs.of_block h (hx.kept.block _ (World.rowIs.lt h) ?_)
  rintro (e | e | e | e)
  · exact rowIs_neD h hm.cells (by decide) e
  · exact drow_map h e1 e.symm
  · exact drow_map h e2 e.symm
  · exact rowIs_type h (by decide) r1 e

theorem rowI_pmx {W W' : World} {base n : Nat} {v : Value} {xs : List Value} (h : W.ownsRow base 3 1 v n xs) {pb vb kb : Nat} {bk tv fv lv lv' : Value} {P P' : Pb} {S S' : Nat → Prop} (hm : Pm S W pb vb kb bk tv fv lv P) (hx : PmX S W S' W' pb vb kb bk tv fv lv lv' P') : W'.ownsRow base 3 1 v n xs := by
  obtain ⟨es, ck, e1⟩ := hm.vars.lt
  obtain ⟨es', ck', e2⟩ := hm.known.lt
  obtain ⟨rs, r1, _⟩ := hm.rows
  refine ownsRow_blk h (fun b hb => hx.kept.block b (ownsRow_lt h hb).2 ?_)
  rintro (e | e | e | e)
  · exact rowIs_type hm.cells (by decide) h (e ▸ hb)
  · exact down_map h e1 (e ▸ hb)
  · exact down_map h e2 (e ▸ hb)
  · exact ownsRow_ne2 h r1 (by decide) hb e
theorem Rw.of_own {W : World} {base : Nat} {v : Value} {c : List Int} (h : W.ownsRow base 3 1 v c.length (c.map (fun x => Value.int .i64 x))) (hne : c ≠ []) : ∃ g cap, v = .slice (some ⟨g, 0, none⟩) c.length cap ∧ Rw W g c := by
  rcases h.2 with ⟨e, h0⟩ | ⟨g, cap, cur, e, e1, e2, e3, e4, e5, e6⟩
  · exact absurd (List.length_eq_zero_iff.1 h0) hne
  · refine ⟨g, cap, e, cur.size, fun j => (cur[j]?).getD undef, by rw [e5]; omega, ⟨cur, e2, rfl, fun i hi => ?_⟩, fun j x hj => ?_⟩
    · simp [hi]
    · have hjl := (List.getElem?_eq_some_iff.1 hj).1
      have hh : (cur.toList.take (c.length * 1))[j]? = some (.int .i64 x) := by rw [e6, List.getElem?_map, hj]; rfl
      rw [List.getElem?_take_of_lt (by omega)] at hh
      rw [Array.getElem?_toList] at hh
      show (cur[j]?).getD undef = _
      rw [hh]
      rfl

theorem vari_len (P : Pb) (a : Pr) : (P.vari a).2.count ≤ P.count + 1 ∧ (P.vari a).2.vars.length ≤ P.vars.length + 1 ∧ (P.vari a).2.lemmas.length ≤ P.lemmas.length + 1 ∧ (P.vari a).1 ≤ P.count + 1 ∨ (∃ x, numV P.vars a = some x) := by
  unfold Pb.vari
  cases h : P.num a with
  | some x => exact Or.inr ⟨x, h⟩
  | none =>
    refine Or.inl ⟨Nat.le_refl _, by simp, ?_, Nat.le_refl _⟩
    simp only
    split <;> simp
theorem vari_lens (P : Pb) (a : Pr) : (P.vari a).2.count ≤ P.count + 1 ∧ (P.vari a).2.vars.length ≤ P.vars.length + 1 ∧ (P.vari a).2.lemmas.length ≤ P.lemmas.length + 1 := by
  unfold Pb.vari
  cases h : P.num a with
  | some x => exact ⟨Nat.le_succ _, Nat.le_succ _, Nat.le_succ _⟩
  | none =>
    refine ⟨Nat.le_refl _, by simp, ?_⟩
    simp only
    split <;> simp
/-- Numbers of variables are small. -/
def VrS (P : Pb) : Prop := ∀ e ∈ P.vars, e.2 ≤ P.count
theorem VrS.vari {P : Pb} (h : VrS P) (a : Pr) : VrS (P.vari a).2 ∧ (P.vari a).1 ≤ (P.vari a).2.count := by
  unfold Pb.vari
  cases hn : P.num a with
  | some x =>
    refine ⟨h, ?_⟩
    unfold Pb.num at hn
    cases hf : P.vars.find? (fun e => decide (e.1 = a)) with
    | none => rw [hf] at hn; simp at hn
    | some e =>
      rw [hf] at hn
      simp at hn
      subst hn
      exact h e (List.mem_of_find?_eq_some hf)
  | none =>
    refine ⟨fun e he => ?_, Nat.le_refl _⟩
    simp only at he ⊢
    rcases List.mem_append.1 he with he | he
    · exact Nat.le_succ_of_le (h e he)
    · simp at he
      subst he
      exact Nat.le_refl _
theorem partP (W : World) (xs : Array Value) (o : Nat) : (part 34 xs o).run Tryz.prog W = .ok (.agg (xs.extract o (o + 2))) W := by
  have ag := Tryz.isAgg34 W
  simp [part, ag]
theorem ix4_0 (W : World) (a b c d e f g h : Value) : (Instr.index 204 (.agg #[a, b, c, d, e, f, g, h]) (.int .i64 0)).run Tryz.prog W = .ok (.agg #[a, b]) W := by
  simp [Instr.index, run_underlying Tryz.underlying204, asIntOf, partP]
theorem ix4_1 (W : World) (a b c d e f g h : Value) : (Instr.index 204 (.agg #[a, b, c, d, e, f, g, h]) (.int .i64 1)).run Tryz.prog W = .ok (.agg #[c, d]) W := by
  simp [Instr.index, run_underlying Tryz.underlying204, asIntOf, partP]
theorem ix4_2 (W : World) (a b c d e f g h : Value) : (Instr.index 204 (.agg #[a, b, c, d, e, f, g, h]) (.int .i64 2)).run Tryz.prog W = .ok (.agg #[e, f]) W := by
  simp [Instr.index, run_underlying Tryz.underlying204, asIntOf, partP]
theorem ix4_3 (W : World) (a b c d e f g h : Value) : (Instr.index 204 (.agg #[a, b, c, d, e, f, g, h]) (.int .i64 3)).run Tryz.prog W = .ok (.agg #[g, h]) W := by
  simp [Instr.index, run_underlying Tryz.underlying204, asIntOf, partP]
/-- A row of numbers of one's own grows: the problem stays. -/
theorem PmX.grown {S S' : Nat → Prop} {w W W' : World} {pb vb kb : Nat} {bk tv fv lv lv' : Value} {P : Pb} (h : PmX S w S' W pb vb kb bk tv fv lv lv' P) {base n : Nat} {v : Value} {xs : List Value} (hr : W.ownsRow base 3 1 v n xs) (hsep : ∀ b, v.ownBlock = some b → ¬ S' b ∧ w.heap.size ≤ b) (hg : W.grownBy W' v.ownBlock) : PmX S w S' W' pb vb kb bk tv fv lv lv' P := by
  obtain ⟨es, ck, e1⟩ := h.is.vars.lt
  obtain ⟨es', ck', e2⟩ := h.is.known.lt
  obtain ⟨rs, r1, r2, r3⟩ := h.is.rows
  have nb : ∀ k, k < W.heap.size → v.ownBlock ≠ some k → W'.heap[k]? = W.heap[k]? := fun k hk hne => hg.block k hk (fun e => hne e.symm)
  refine ⟨h.is.keep hg.size (nb _ h.is.cells.lt (rowIs_type h.is.cells (by decide) hr)) (nb _ (Array.getElem?_eq_some_iff.1 e1).1 (down_map hr e1)) (nb _ (Array.getElem?_eq_some_iff.1 e2).1 (down_map hr e2)) (fun b hb => nb b (ownsRow_lt r1 hb).2 (fun e => ownsRow_ne2 r1 hr (by decide) hb e)) (fun g c hs hrw => nb g hrw.lt (fun e => (hsep g e).1 hs)), h.new, ⟨hg.os.trans h.kept.os, hg.tape.trans h.kept.tape, hg.output.trans h.kept.output, Nat.le_trans h.kept.size hg.size, fun k hk hn => (nb k (Nat.lt_of_lt_of_le hk h.kept.size) (fun e => by have := (hsep k e).2; omega)).trans (h.kept.block k hk hn)⟩, h.at_⟩
/-- learnStep in its loop. -/
def LsI (S : Nat → Prop) (w W : World) (pb vb kb : Nat) (bk tv fv lv : Value) (QS : List Pr) (V : Nat × Pb) (i : Nat) (t6 : Value) : Prop :=
  ∃ (S' : Nat → Prop) (Li : List Int) (Pi : Pb) (lvi : Value), PmX S w S' W pb vb kb bk tv fv lv lvi Pi ∧ W.ownsRow 0 3 1 t6 (1 + Li.length) (((V.1 : Int) :: Li).map (fun x => Value.int .i64 x)) ∧ (∀ b, t6.ownBlock = some b → ¬ S' b ∧ w.heap.size ≤ b) ∧ (Pi.lemmas.length ≤ 10000001 + i ∧ Pi.count ≤ 100001 + i ∧ Pi.vars.length ≤ 100001 + i ∧ Li.length ≤ i ∧ VrS Pi) ∧ (∃ Rest, Pb.prem (QS.drop i) Pi = (Rest, (Pb.prem QS V.2).2) ∧ Li ++ Rest = (Pb.prem QS V.2).1)

set_option maxRecDepth 100000 in
set_option maxHeartbeats 1000000 in
theorem learnStep_in (S : Nat → Prop) (w : World) (pb vb kb : Nat) (bk tv fv lv : Value) (P : Pb) (h : Pm S w pb vb kb bk tv fv lv P) (k : Pr × List Pr) (hk : SkOk k) (hl : P.lemmas.length ≤ 10000000) (hc : P.count < 100000) (hv : P.vars.length < 100000) (hkn : P.known.length < 1000000000) (hvs : VrS P) :
    Calls Tryz.prog 96 #[.pointer (some ⟨pb, 0, none⟩), skV k] w fun e w' => e = .returned (.tuple #[]) ∧ ∃ S' lv', PmX S w S' w' pb vb kb bk tv fv lv lv' (P.step k) := by
  obtain ⟨x0, x1, x2, x3, x4, x5, x6, x7, x8, x9, hfl⟩ := flat4_ex k.1 k.2
  have hsk := skV_at hfl
  have hB0 : Below w.heap.size w (w.alloc (.cells #[.int .i64 (x0 : Int), .int .i64 (x1 : Int), .int .i64 (x2 : Int), .int .i64 (x3 : Int), .int .i64 (x4 : Int), .int .i64 (x5 : Int), .int .i64 (x6 : Int), .int .i64 (x7 : Int), .int .i64 (x8 : Int), .int .i64 (x9 : Int)] 206)) := (Below.refl _ _).alloc (Nat.le_refl _) _
  have X0 := (PmX.start h).below hB0
  have B0 := BxS.made w x0 x1 x2 x3 x4 x5 x6 x7 x8 x9
  rw [hsk]
  go_enter Tryz.func96, Tryz.ntmps96
  go_wp2_with fail
  generalize (w.alloc (.cells #[.int .i64 (x0 : Int), .int .i64 (x1 : Int), .int .i64 (x2 : Int), .int .i64 (x3 : Int), .int .i64 (x4 : Int), .int .i64 (x5 : Int), .int .i64 (x6 : Int), .int .i64 (x7 : Int), .int .i64 (x8 : Int), .int .i64 (x9 : Int)] 206)) = w0 at *
  obtain ⟨sb, hsb⟩ : ∃ s, w.heap.size = s := ⟨_, rfl⟩
  rw [hsb] at B0
  simp only [hsb]
  have c6 : w0.cell? ⟨pb, 6, none⟩ = some (.map (some kb)) := X0.is.cells.cell (i := 6) (by omega)
  have c6a : ∀ O, (w0.alloc O).cell? ⟨pb, 6, none⟩ = some (.map (some kb)) := fun O => Lib.cell?_alloc_some _ c6
  obtain ⟨y0, y1, y2, y3, y4, y5, y6, y7, y8, y9⟩ := B0.get
  have LK1 := (show KnIs w0.drew kb P.known from X0.is.known.keep rfl).look hk
  have LK2 : ∀ O, _ := fun O => (show KnIs (w0.alloc O).drew kb P.known from (X0.is.below (below_ad w0 O)).known).look hk
  rw [hsk] at LK1
  simp only [hsk] at LK2
  have z0 : ∀ O, (w0.alloc O).cell? ⟨sb, 0, none⟩ = some (.int .i64 (x0 : Int)) := fun O => Lib.cell?_alloc_some _ y0
  have z1 : ∀ O, (w0.alloc O).cell? ⟨sb, 1, none⟩ = some (.int .i64 (x1 : Int)) := fun O => Lib.cell?_alloc_some _ y1
  have z2 : ∀ O, (w0.alloc O).cell? ⟨sb, 2, none⟩ = some (.int .i64 (x2 : Int)) := fun O => Lib.cell?_alloc_some _ y2
  have z3 : ∀ O, (w0.alloc O).cell? ⟨sb, 3, none⟩ = some (.int .i64 (x3 : Int)) := fun O => Lib.cell?_alloc_some _ y3
  have z4 : ∀ O, (w0.alloc O).cell? ⟨sb, 4, none⟩ = some (.int .i64 (x4 : Int)) := fun O => Lib.cell?_alloc_some _ y4
  have z5 : ∀ O, (w0.alloc O).cell? ⟨sb, 5, none⟩ = some (.int .i64 (x5 : Int)) := fun O => Lib.cell?_alloc_some _ y5
  have z6 : ∀ O, (w0.alloc O).cell? ⟨sb, 6, none⟩ = some (.int .i64 (x6 : Int)) := fun O => Lib.cell?_alloc_some _ y6
  have z7 : ∀ O, (w0.alloc O).cell? ⟨sb, 7, none⟩ = some (.int .i64 (x7 : Int)) := fun O => Lib.cell?_alloc_some _ y7
  have z8 : ∀ O, (w0.alloc O).cell? ⟨sb, 8, none⟩ = some (.int .i64 (x8 : Int)) := fun O => Lib.cell?_alloc_some _ y8
  have z9 : ∀ O, (w0.alloc O).cell? ⟨sb, 9, none⟩ = some (.int .i64 (x9 : Int)) := fun O => Lib.cell?_alloc_some _ y9
  have HX : Hid (_ ∧ _) := And.intro X0 B0
  clear X0 B0 h hsb hB0
  go_cut [4, 5] from 9 to 17 (fun _ t5 wx => t5 = .bool (decide ((k.1, pad4c k.2) ∈ P.known)) ∧ Hid (Below w0.heap.size w0 wx))
  case first =>
    go_region_law (fail)
    all_goals
      try simp only [Act.put, List.getElem_toArray, List.getElem_cons_succ, List.getElem_cons_zero, List.setIfInBounds_toArray, List.set_cons_succ, List.set_cons_zero]
      go_wp2_with fail
      go_meet
      case rel => exact ⟨rfl, below_ad w0 _⟩
  case rest =>
    obtain ⟨rfl, HB1⟩ := hcut
    by_cases hin : (k.1, pad4c k.2) ∈ P.known
    · have dk : decide ((k.1, pad4c k.2) ∈ P.known) = true := decide_eq_true hin
      have HF : Hid (P.step k = P) := by
        show _ = _
        unfold Pb.step
        rw [if_pos (show (k.1, pad4 k.2) ∈ P.known from hin)]
      have HX1 : Hid _ := HX.out.1.below HB1.out
      rw [dk]
      clear hin dk LK1 LK2
      apply_assumption
      go_wp2_with fail
      refine ⟨rfl, .tuple #[], by simp [results, Tryz.results96], rfl, S, lv, ?_⟩
      rw [HF.out]
      exact HX1.out
    · have dk : decide ((k.1, pad4c k.2) ∈ P.known) = false := decide_eq_false hin
      rw [dk]
      have X1 := HX.out.1.below HB1.out
      have B1 : BxS wc sb x0 x1 x2 x3 x4 x5 x6 x7 x8 x9 := World.rowIs.of_block HX.out.2 (HB1.out.block _ (World.rowIs.lt HX.out.2))
      clear c6 c6a y0 y1 y2 y3 y4 y5 y6 y7 y8 y9 z0 z1 z2 z3 z4 z5 z6 z7 z8 z9 LK1 LK2
      have c6 : wc.cell? ⟨pb, 6, none⟩ = some (.map (some kb)) := X1.is.cells.cell (i := 6) (by omega)
      obtain ⟨y0, y1, y2, y3, y4, y5, y6, y7, y8, y9⟩ := B1.get
      obtain ⟨W3, hr3, hv3, hk3⟩ := (show KnIs wc.drew kb P.known from X1.is.known.keep rfl).store hk (by omega)
      rw [hsk] at hr3
      have XL := (X1.is.below (below_drw wc)).learn hv3 hk3
      have XL2 : PmX S wc S W3 pb vb kb bk tv fv lv lv { P with known := P.known ++ [(k.1, pad4c k.2)] } := ⟨XL.is, XL.new, ⟨XL.kept.os, XL.kept.tape, XL.kept.output, XL.kept.size, XL.kept.block⟩, XL.at_⟩
      have X3 := X1.trans XL2
      have B3 := B1.pmx X1.is XL2
      have HNI : Hid _ := hin
      have HX3 : Hid (_ ∧ _) := And.intro X3 B3
      clear hin dk X1 B1 XL XL2 hv3 hk3 HX HB1 X3 B3
      obtain ⟨w1, rfl⟩ : ∃ w1, w1 = wc := ⟨_, rfl⟩
      apply_assumption
      go_wp2_with fail
      go_cut [19] from 20 to 24 (fun _ wx => wx = W3)
      case first =>
        go_region_law (fail)
        all_goals
          try simp only [Act.put, List.getElem_toArray, List.getElem_cons_succ, List.getElem_cons_zero, List.setIfInBounds_toArray, List.set_cons_succ, List.set_cons_zero]
          go_wp2_with fail
          go_meet
          case rel => rfl
      case rest =>
        subst hcut
        clear y0 y1 y2 y3 y4 y5 y6 y7 y8 y9 c6 hr3
        obtain ⟨y0, y1, y2, y3, y4, y5, y6, y7, y8, y9⟩ := HX3.out.2.get
        have hcp : k.1 = (x0, x1) := by
          have := hfl
          simp only [flat4, List.cons_append, List.cons.injEq] at this
          exact Prod.ext this.1 this.2.1
        have VA := dvar_in S wc pb vb kb bk tv fv lv _ HX3.out.1.is (by simp only; omega) (by simp only; omega) (by simp only; omega) k.1 hk.1
        obtain ⟨V, hV⟩ : ∃ V, V = Pb.vari { P with known := P.known ++ [(k.1, pad4c k.2)] } k.1 := ⟨_, rfl⟩
        rw [← hV] at VA
        rw [hcp] at VA
        have HV : Hid _ := hV
        clear hV hcp
        apply_assumption
        go_wp2_with (first | (go_at_call 80; refine VA.mono ?_; rintro e w5 ⟨rfl, S5, lv5, X5⟩; refine Aside.out ?_))
        delta Aside
        have X5' := HX3.out.1.trans X5
        have B5 := HX3.out.2.pmx HX3.out.1.is X5
        have B6 : BxS (w5.alloc (.cells #[.int .i64 (V.1 : Int)] 3)) sb x0 x1 x2 x3 x4 x5 x6 x7 x8 x9 := World.rowIs.of_block B5 (heap_alloc_old _ _ (World.rowIs.lt B5))
        obtain ⟨q0, q1, q2, q3, q4, q5, q6, q7, q8, q9⟩ := B6.get
        have X6 := X5'.below ((Below.refl w5.heap.size w5).alloc (Nat.le_refl _) (.cells #[.int .i64 (V.1 : Int)] 3))
        have R6 : (w5.alloc (.cells #[.int .i64 (V.1 : Int)] 3)).ownsRow 0 3 1 (.slice (some ⟨w5.heap.size, 0, none⟩) 1 1) 1 ([(V.1 : Int)].map (fun x => Value.int .i64 x)) := ⟨rfl, Or.inr ⟨w5.heap.size, 1, #[.int .i64 (V.1 : Int)], rfl, Nat.zero_le _, heap_alloc_new _ _, Nat.le_refl _, by unfold maxLen; omega, rfl, rfl⟩⟩
        obtain ⟨QS, hQS⟩ : ∃ QS : List Pr, QS = [(x2, x3), (x4, x5), (x6, x7), (x8, x9)] := ⟨_, rfl⟩
        have hpd : pad4c k.2 = QS := by
          obtain ⟨a, b, d, e, h1⟩ := pad4c_ex k.2
          have := hfl
          simp only [flat4, h1, List.flatMap_cons, List.flatMap_nil, List.cons_append, List.nil_append, List.append_nil, List.cons.injEq, and_true] at this
          obtain ⟨_, _, e2, e3, e4, e5, e6, e7, e8, e9⟩ := this
          rw [h1, hQS, ← e2, ← e3, ← e4, ← e5, ← e6, ← e7, ← e8, ← e9]
        have hQok : ∀ q ∈ QS, PrOk q := fun q hq => by
          rw [← hpd] at hq
          unfold pad4c at hq
          rcases List.mem_append.1 (List.mem_of_mem_take hq) with hq | hq
          · exact hk.2 q hq
          · rw [List.eq_of_mem_replicate hq]
            exact ⟨by simp, by simp⟩
        have HI0 : Hid (LsI S w (w5.alloc (.cells #[.int .i64 (V.1 : Int)] 3)) pb vb kb bk tv fv lv QS V 0 (.slice (some ⟨w5.heap.size, 0, none⟩) 1 1)) := by
          have hl3 := vari_lens { P with known := P.known ++ [(k.1, pad4c k.2)] } k.1
          have hs3 := VrS.vari (P := { P with known := P.known ++ [(k.1, pad4c k.2)] }) hvs k.1
          rw [← HV.out] at hl3 hs3
          simp only at hl3
          refine ⟨S5, [], V.2, lv5, X6, R6, fun b hb => ?_, ⟨by omega, by omega, by omega, Nat.le_refl _, hs3.1⟩, _, rfl, by simp⟩
          have hbe : w5.heap.size = b := by simpa [Value.ownBlock] using hb
          rw [← hbe]
          exact ⟨fun hS => absurd (X5'.is.lt _ hS) (Nat.lt_irrefl _), X5'.kept.size⟩
        have HQ : Hid (_ ∧ _ ∧ _ ∧ _) := And.intro hQS (And.intro hpd (And.intro hQok B5))
        clear B6 X5 X5' B5 X6 R6 hpd hQok VA y0 y1 y2 y3 y4 y5 y6 y7 y8 y9
        apply_assumption
        go_wp2_with fail
        generalize w5.alloc (.cells #[.int .i64 (V.1 : Int)] 3) = w6 at *
        obtain ⟨rb, hrb⟩ : ∃ r, w5.heap.size = r := ⟨_, rfl⟩
        rw [hrb] at HI0
        simp only [hrb]
        obtain ⟨i0, hi0, hz0, hz1, hz2⟩ := info_parts infoIntq
        clear hrb q0 q1 q2 q3 q4 q5 q6 q7 q8 q9 HX3
        go_loopw [6, 32] (fun t6 t32 W => ∃ i : Nat, i ≤ 4 ∧ t32 = .int .i64 (i : Int) ∧ Hid (LsI S w W pb vb kb bk tv fv lv QS V i t6)) (fun _ t32 _ => 4 - (intOf t32).toNat)
        case atStart => exact ⟨0, by omega, rfl, HI0⟩
        case round =>
          obtain ⟨i, hi4, rfl, HJ⟩ := hrel
          clear HI0
          have ix0 := ix4_0 wr
          have ix1 := ix4_1 wr
          have ix2 := ix4_2 wr
          have ix3 := ix4_3 wr
          by_cases hlt : i < 4
          · obtain ⟨q, hq⟩ : ∃ q, QS[i]? = some q := ⟨QS[i]'(by rw [HQ.out.1]; exact hlt), List.getElem?_eq_getElem _⟩
            obtain ⟨qa, qb⟩ := q
            have hil : i < QS.length := (List.getElem?_eq_some_iff.1 hq).1
            have hge : QS[i] = (qa, qb) := (List.getElem?_eq_some_iff.1 hq).2
            have hdr : QS.drop i = (qa, qb) :: QS.drop (i + 1) := by rw [List.drop_eq_getElem_cons hil, hge]
            have hqok : PrOk (qa, qb) := HQ.out.2.2.1 _ (List.mem_of_getElem? hq)
            obtain ⟨Si, Li, Pi, lvi, hXi, hRi, hSi, ⟨b1, b2, b3, b4, b5⟩, Rest, hR1, hR2⟩ := HJ.out
            rw [hdr, Pb.prem] at hR1
            have hBx : Below wr.heap.size wr (wr.alloc (.cells #[.int .i64 (qa : Int), .int .i64 (qb : Int)] 34)) := (Below.refl _ _).alloc (Nat.le_refl _) _
            have hx := hq
            rw [HQ.out.1] at hx
            obtain ⟨la, lc, hla⟩ := ownsRow_form hRi
            subst hla
            by_cases hqe : qa = qb
            · rw [if_pos hqe] at hR1
              have HF : Hid (LsI S w (wr.alloc (.cells #[.int .i64 (qa : Int), .int .i64 (qb : Int)] 34)) pb vb kb bk tv fv lv QS V (i + 1) (.slice la (1 + Li.length) lc)) := ⟨Si, Li, Pi, lvi, hXi.below hBx, ownsRow_below hRi hBx, hSi, ⟨by omega, by omega, by omega, by omega, b5⟩, Rest, hR1, hR2⟩
              have dq : ((qa : Int) != (qb : Int)) = false := by rw [hqe]; simp
              generalize 1 + Li.length = ll at *
              clear hXi hRi hSi b1 b2 b3 b4 b5 hR1 hR2 HJ hBx hdr hge hq hqe hqok hil
              rcases (by omega : i = 0 ∨ i = 1 ∨ i = 2 ∨ i = 3) with rfl | rfl | rfl | rfl
              all_goals
                simp only [List.getElem?_cons_zero, List.getElem?_cons_succ, Option.some.injEq, Prod.mk.injEq] at hx
                obtain ⟨rfl, rfl⟩ := hx
                go_wp2_with fail
                exact ⟨⟨_, by decide, rfl, HF⟩, by decide⟩
            · rw [if_neg hqe] at hR1
              have VA := dvar_in Si (wr.alloc (.cells #[.int .i64 (qa : Int), .int .i64 (qb : Int)] 34)) pb vb kb bk tv fv lvi Pi (hXi.is.below hBx) (by omega) (by omega) (by omega) (qa, qb) hqok
              have dq : ((qa : Int) != (qb : Int)) = true := by simp; omega
              obtain ⟨Vq, hVq⟩ : ∃ Vq, Vq = Pi.vari (qa, qb) := ⟨_, rfl⟩
              rw [← hVq] at VA hR1
              have hl3 := vari_lens Pi (qa, qb)
              have hs3 := b5.vari (qa, qb)
              rw [← hVq] at hl3 hs3
              have hneg : IntKind.i64.wrap (-(Vq.1 : Int)) = -(Vq.1 : Int) := by rw [IntKind.wrap_i64]; omega
              injection hR1 with e1 e2
              have HF : Hid (∀ (w7 w8 : World) (S7 : Nat → Prop) (lv7 v8 : Value), PmX Si (wr.alloc (.cells #[.int .i64 (qa : Int), .int .i64 (qb : Int)] 34)) S7 w7 pb vb kb bk tv fv lvi lv7 Vq.2 → w8.ownsRow 0 3 1 v8 (1 + Li.length + 1) (((V.1 : Int) :: Li).map (fun x => Value.int .i64 x) ++ [.int .i64 (-(Vq.1 : Int))]) → (w7.alloc (.cells #[.int .i64 (-(Vq.1 : Int))] 3)).grownBy w8 (Value.slice la (1 + Li.length) lc).ownBlock → (v8.ownBlock = (Value.slice la (1 + Li.length) lc).ownBlock ∨ v8.ownBlock = some (w7.alloc (.cells #[.int .i64 (-(Vq.1 : Int))] 3)).heap.size) → LsI S w w8 pb vb kb bk tv fv lv QS V (i + 1) v8) := fun w7 w8 S7 lv7 v8 hX7 ho hg hat => by
                have hX := (hXi.below hBx).trans hX7
                have hr7 := rowI_pmx (ownsRow_below hRi hBx) (hXi.is.below hBx) hX7
                have hr7a := ownsRow_below hr7 ((Below.refl w7.heap.size w7).alloc (Nat.le_refl _) (.cells #[.int .i64 (-(Vq.1 : Int))] 3))
                have hX8 := hX.below ((Below.refl w7.heap.size w7).alloc (Nat.le_refl _) (.cells #[.int .i64 (-(Vq.1 : Int))] 3))
                have hs7 : ∀ b, (Value.slice la (1 + Li.length) lc).ownBlock = some b → ¬ S7 b ∧ w.heap.size ≤ b := fun b hb => ⟨fun hS => (hX7.new b hS).elim (fun e => (hSi b hb).1 e) (fun e => by have := (ownsRow_lt hRi hb).2; simp at e; omega), (hSi b hb).2⟩
                refine ⟨S7, Li ++ [-(Vq.1 : Int)], Vq.2, lv7, hX8.grown hr7a hs7 hg, ?_, fun b hb => ?_, ⟨by omega, by omega, by omega, by simp; omega, hs3.1⟩, _, Prod.ext rfl e2, ?_⟩
                · have e : 1 + (Li ++ [-(Vq.1 : Int)]).length = 1 + Li.length + 1 := by simp; omega
                  rw [e]
                  simpa using ho
                · rcases hat with e | e
                  · exact hs7 b (e ▸ hb)
                  · rw [e] at hb
                    have hbe : (w7.alloc (.cells #[.int .i64 (-(Vq.1 : Int))] 3)).heap.size = b := by simpa using hb
                    rw [← hbe]
                    exact ⟨fun hS => absurd (hX8.is.lt _ hS) (Nat.lt_irrefl _), hX8.kept.size⟩
                · rw [← hR2, ← e1]
                  simp
              have HR : Hid (∀ (w7 : World) (S7 : Nat → Prop) (lv7 : Value), PmX Si (wr.alloc (.cells #[.int .i64 (qa : Int), .int .i64 (qb : Int)] 34)) S7 w7 pb vb kb bk tv fv lvi lv7 Vq.2 → w7.ownsRow 0 3 1 (.slice la (1 + Li.length) lc) (1 + Li.length) (((V.1 : Int) :: Li).map (fun x => Value.int .i64 x))) := fun w7 S7 lv7 hX7 => rowI_pmx (ownsRow_below hRi hBx) (hXi.is.below hBx) hX7
              generalize hll : ((V.1 : Int) :: Li).map (fun x => Value.int .i64 x) = rw1 at *
              generalize hl1 : 1 + Li.length = ll at *
              have hlb : ll ≤ 10 := by omega
              clear hXi hRi hSi b1 b2 b3 b4 b5 hR2 HJ hBx hdr hge hq hqe hqok hil hll hl1 e1 e2 hl3 hs3 hVq
              rcases (by omega : i = 0 ∨ i = 1 ∨ i = 2 ∨ i = 3) with rfl | rfl | rfl | rfl
              all_goals
                simp only [List.getElem?_cons_zero, List.getElem?_cons_succ, Option.some.injEq, Prod.mk.injEq] at hx
                obtain ⟨rfl, rfl⟩ := hx
                go_wp2_with (first | (go_at_call 80; refine VA.mono ?_; rintro e w7 ⟨rfl, S7, lv7, X7⟩; refine Aside.out ?_))
                delta Aside
                have r7 := HR.out w7 S7 lv7 X7
                have HX7 : Hid _ := X7
                clear X7 VA HR
                apply_assumption
                go_wp2_with (first | (at_builtin; refine Aside.out ?_))
                delta Aside
                refine wpList_append_own_at _ rfl _ _ 39 rfl 0 3 i0 _ 1 8 Tryz.underlying39 hi0 hz0 hz1 hz2 rfl (by decide) _ _ _ rfl (r7.alloc _) ⟨_, 0, none⟩ 1 1 [.int .i64 (-(Vq.1 : Int))] rfl rfl (cell_one1 w7 _ _) (by simp [Value.oneCell']) (by unfold maxLen; omega) (by omega) (by simp) ?_
                intro v8 w8 hown8 hgrow8 _ hat8
                have HL : Hid _ := HF.out w7 w8 S7 lv7 v8 HX7.out hown8 hgrow8 hat8
                clear hown8 hgrow8 hat8 HF HX7 r7
                go_wp2_with fail
                exact ⟨⟨_, by decide, rfl, HL⟩, by decide⟩
          · obtain rfl : i = 4 := by omega
            obtain ⟨Si, Li, Pi, lvi, hXi, hRi, hSi, ⟨b1, b2, b3, b4, b5⟩, Rest, hR1, hR2⟩ := HJ.out
            have hdr : QS.drop 4 = [] := by rw [HQ.out.1]; rfl
            rw [hdr, Pb.prem] at hR1
            injection hR1 with e1 e2
            subst e1
            rw [List.append_nil] at hR2
            have hlen : ((V.1 : Int) :: Li).length = 1 + Li.length := by simp; omega
            rw [← hlen] at hRi
            obtain ⟨gb, gc, hgv, hRw⟩ := Rw.of_own hRi (by simp)
            subst hgv
            have SAY := dsay_in Si wr pb vb kb bk tv fv lvi Pi hXi.is (by omega) gb gc ((V.1 : Int) :: Li) hRw
            have HF : Hid ({ Pi with lemmas := Pi.lemmas ++ [(V.1 : Int) :: Li] } = P.step k) := by
              show _ = _
              unfold Pb.step
              rw [if_neg (show ¬ (k.1, pad4 k.2) ∈ P.known from HNI.out)]
              have hpd : pad4 k.2 = QS := HQ.out.2.1
              rw [hpd, show ({ P with known := P.known ++ [(k.1, QS)] } : Pb).vari k.1 = V from by rw [HV.out, ← HQ.out.2.1], ← hR2, ← e2]
            have hgb := hSi gb rfl
            have hXw := hXi.wider (S2 := fun k => Si k ∨ k = gb) (fun _ => Or.inl) (fun k hk => hk.elim (fun e => hXi.new k e) (fun e => by rw [e]; exact Or.inr hgb.2)) (fun k hk => hk.elim (fun e => hXi.is.lt k e) (fun e => by rw [e]; exact hRw.lt))
            have HXi : Hid _ := hXw
            clear hXi hXw hgb hSi hRi hRw hR2 e2 HJ b1 b2 b3 b4 b5 hdr hlen
            generalize ((V.1 : Int) :: Li).length = gl at *
            go_wp2_with (first | (go_at_call 122; refine SAY.mono ?_; rintro e w9 ⟨rfl, lv9, X9, X9k, X9a⟩))
            refine ⟨rfl, .tuple #[], by simp [results, Tryz.results96], rfl, fun k => Si k ∨ k = gb, lv9, ?_⟩
            rw [← HF.out]
            exact HXi.out.trans ⟨X9, fun _ => Or.inl, X9k, X9a⟩
end Go.Proofs.YtlehlgipbhfioaaGreat
