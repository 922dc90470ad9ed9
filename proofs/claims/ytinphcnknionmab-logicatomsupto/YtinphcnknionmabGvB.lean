/- law05: Given, the walk. -/
import Derived.Test.YtinphcnknionmabP19
namespace Go.Proofs.Ytinphcnknionmab
open Go.RowKit Go.Maps

def GvT (t : Lf) : Prop := ∀ (w : World), Sml t → KidsIn t.kv t.kids → (∀ k ∈ t.kids, LayC w k) →
  Calls Try.prog 6 #[.agg #[.int .i64 t.op, .int .i64 t.x, .int .i64 t.y, t.kv]] w fun e w' => ∃ v, e = .returned v ∧ FVal w.heap.size w' v t.er ∧ Below w.heap.size w w'

theorem cell_four (w : World) (a b c d : Value) (ty : TypeId) : ∀ j u, [a, b, c, d][j]? = some u → (w.alloc (.cells #[a, b, c, d] ty)).cell? ((⟨w.heap.size, 0, none⟩ : Addr).add j) = some u := by
  intro j u hj
  have hn := made_row w #[a, b, c, d] ty
  match j, hj with
  | 0, hj => simp at hj; subst hj; exact hn.cell (i := 0) (by simp)
  | 1, hj => simp at hj; subst hj; exact hn.cell (i := 1) (by simp)
  | 2, hj => simp at hj; subst hj; exact hn.cell (i := 2) (by simp)
  | 3, hj => simp at hj; subst hj; exact hn.cell (i := 3) (by simp)

/-- What Given goes round with. -/
structure GvAt (w W : World) (op x y : Int) (kv : Value) (v : Value) (fs : List Fo) : Prop where
  below : Below w.heap.size w W
  c0 : W.cell? ⟨w.heap.size, 0, none⟩ = some (.int .i64 op)
  c1 : W.cell? ⟨w.heap.size, 1, none⟩ = some (.int .i64 x)
  c2 : W.cell? ⟨w.heap.size, 2, none⟩ = some (.int .i64 y)
  c3 : W.cell? ⟨w.heap.size, 3, none⟩ = some kv
  res : W.rowIs (w.heap.size + 1) 31 4 (fun j => if j = 3 then .slice none 0 0 else .int .i64 0)
  row : ∃ cs : List Lf, cs.map Lf.er = fs ∧ KR (w.heap.size + 2) W v cs

theorem GvAt.next {w W w5 w8 : World} {op x y : Int} {kv v v8 : Value} {fs fs' : List Fo} (h : GvAt w W op x y kv v fs) (hB : Below W.heap.size W w5) (hgrow : w5.grownBy w8 v.ownBlock) (hrow : ∃ cs : List Lf, cs.map Lf.er = fs' ∧ KR (w.heap.size + 2) w8 v8 cs) : GvAt w w8 op x y kv v8 fs' := by
  obtain ⟨cs, _, hkr⟩ := h.row
  have hv : ∀ b, v.ownBlock = some b → w.heap.size + 2 ≤ b ∧ b < W.heap.size := fun b hb => ownsRow_at hkr.1 hb
  have nm : ∀ k, k < w.heap.size + 2 → k < W.heap.size → w8.heap[k]? = W.heap[k]? := fun k hk hlt => (hgrow.block k (Nat.lt_of_lt_of_le hlt hB.size) (fun e => by have := (hv k e.symm).1; omega)).trans (hB.block k hlt)
  have hlt := World.block_lt_of_cell? W _ h.c0
  have cc : ∀ i, w8.cell? ⟨w.heap.size, i, none⟩ = W.cell? ⟨w.heap.size, i, none⟩ := fun i => World.cell?_of_block (nm w.heap.size (by omega) hlt)
  refine ⟨?_, (cc 0).trans h.c0, (cc 1).trans h.c1, (cc 2).trans h.c2, (cc 3).trans h.c3, h.res.of_block (nm _ (by omega) h.res.lt), hrow⟩
  have b5 : Below w.heap.size w w5 := h.below.trans (hB.mono h.below.size)
  exact b5.trans ⟨hgrow.os, hgrow.tape, hgrow.output, hgrow.size, fun k hk => hgrow.block k (by have := b5.size; omega) (fun e => by have := (hv k e.symm).1; omega)⟩

set_option maxRecDepth 100000 in
set_option maxHeartbeats 2000000 in
theorem gvt_step (t : Lf) (ih : ∀ k ∈ t.kids, GvT k) : GvT t := by
  intro w hsz hk hks
  obtain ⟨b, o, op, x, y, kv, kids⟩ := t
  simp only [Lf.op, Lf.x, Lf.y, Lf.kv, Lf.kids, Lf.er] at ih hk hks ⊢
  obtain ⟨hnb, hsz2⟩ : kids.length ≤ 1048576 ∧ ∀ k ∈ kids, Sml k := by cases hsz with | mk h1 h2 => exact ⟨h1, h2⟩
  obtain ⟨a, cap, rfl, hcap, hkk⟩ := hk
  have hfl : kids.map Lf.er = (kids.map Lf.er).take kids.length := by rw [List.take_of_length_le (by simp)]
  rw [hfl]
  -- at each place: the cells of the Kid, and what Given says of it
  have KD : Hid (∀ (i : Nat), i < kids.length → ∃ k kb ko sa sn sc, a = some ⟨kb, ko, none⟩ ∧ (kids.map Lf.er).take (i + 1) = (kids.map Lf.er).take i ++ [Lf.er k] ∧ ∀ W, Below w.heap.size w W → W.cell? ⟨kb, ko + i * 4, none⟩ = some (.int .i64 (Lf.op k)) ∧ W.cell? ⟨kb, ko + i * 4 + 1, none⟩ = some (.int .i64 (Lf.x k)) ∧ W.cell? ⟨kb, ko + i * 4 + 2, none⟩ = some (.int .i64 (Lf.y k)) ∧ W.cell? ⟨kb, ko + i * 4 + 3, none⟩ = some (.slice sa sn sc) ∧
      Calls Try.prog 6 #[.agg #[.int .i64 (Lf.op k), .int .i64 (Lf.x k), .int .i64 (Lf.y k), .slice sa sn sc]] W fun e w' => ∃ v, e = .returned v ∧ FVal W.heap.size w' v (Lf.er k) ∧ Below W.heap.size W w') := by
    intro i hi
    have g1 : kids[i]? = some kids[i] := List.getElem?_eq_getElem hi
    obtain ⟨kb, ko, rfl, ha⟩ : ∃ kb ko, a = some ⟨kb, ko, none⟩ ∧ ∀ (j : Nat) (t : Lf), kids[j]? = some t → t.b = kb ∧ t.o = ko + j * 4 := by
      rcases hkk with e | h
      · rw [e] at hi; simp at hi
      · exact h
    have m1 := List.mem_of_getElem? g1
    have htk : (kids.map Lf.er).take (i + 1) = (kids.map Lf.er).take i ++ [Lf.er kids[i]] := by
      rw [List.take_add_one, List.getElem?_map, g1]; rfl
    generalize kids[i] = k at *
    have d1 := ha i k g1
    obtain ⟨kb0, ko0, kop, kx, ky, kkv, kks⟩ := k
    simp only [Lf.b, Lf.o] at d1
    obtain ⟨rfl, rfl⟩ := d1
    have hi1 := ih _ m1
    have hz1 := hsz2 _ m1
    obtain ⟨sa, sc, rfl, s1⟩ : KidsIn kkv kks := by cases hks _ m1 with | mk _ _ _ _ h _ => exact h
    refine ⟨.mk kb0 (ko + i * 4) kop kx ky (.slice sa kks.length sc) kks, _, _, sa, kks.length, sc, rfl, htk, fun W hB => ?_⟩
    cases (hks _ m1).kept hB with
    | mk q0 q1 q2 q3 q4 q5 => exact ⟨q0, q1, q2, q3, hi1 W hz1 q4 q5⟩
  clear hkk hks ih hcap hsz hsz2 hfl
  generalize kids.map Lf.er = fs at *
  generalize kids.length = n at *
  go_enter Try.func6, Try.ntmps6
  go_wp2_with fail
  have G0 : GvAt w ((w.alloc (.cells #[.int .i64 op, .int .i64 x, .int .i64 y, .slice a n cap] 26)).alloc (.cells #[.int .i64 0, .int .i64 0, .int .i64 0, .slice none 0 0] 31)) op x y (.slice a n cap) (.slice none 0 0) (fs.take 0) := by
    have hz1 : (w.alloc (.cells #[.int .i64 op, .int .i64 x, .int .i64 y, .slice a n cap] 26)).heap.size = w.heap.size + 1 := by simp
    have R1 := made_row w #[.int .i64 op, .int .i64 x, .int .i64 y, .slice a n cap] 26
    have R2 := made_row (w.alloc (.cells #[.int .i64 op, .int .i64 x, .int .i64 y, .slice a n cap] 26)) #[.int .i64 0, .int .i64 0, .int .i64 0, .slice none 0 0] 31
    rw [hz1] at R2
    have R1' := R1.of_block (Below.heap_alloc (w.alloc (.cells #[.int .i64 op, .int .i64 x, .int .i64 y, .slice a n cap] 26)) (.cells #[.int .i64 0, .int .i64 0, .int .i64 0, .slice none 0 0] 31) _ R1.lt)
    refine ⟨((Below.refl _ w).alloc (Nat.le_refl _) _).alloc (by simp) _, R1'.cell (i := 0) (by simp), R1'.cell (i := 1) (by simp), R1'.cell (i := 2) (by simp), R1'.cell (i := 3) (by simp), World.rowIs.congr R2 ?_, ⟨[], by simp, KR.nil _ _⟩⟩
    intro j hj
    have hj' : j < 4 := hj
    rcases (by omega : j = 0 ∨ j = 1 ∨ j = 2 ∨ j = 3) with rfl | rfl | rfl | rfl <;> rfl
  generalize (w.alloc (.cells #[.int .i64 op, .int .i64 x, .int .i64 y, .slice a n cap] 26)).alloc (.cells #[.int .i64 0, .int .i64 0, .int .i64 0, .slice none 0 0] 31) = w2 at G0 ⊢
  go_loopw [3, 4, 5] (fun t3 t4 _ W => ∃ k : Nat, k ≤ n ∧ t4 = .int .i64 (k : Int) ∧ ∃ va vl vc, t3 = .slice va vl vc ∧ Hid (GvAt w W op x y (.slice a n cap) (.slice va vl vc) (fs.take k))) (fun _ t4 _ _ => n - (intOf t4).toNat)
  case atStart => exact ⟨0, by omega, rfl, none, 0, 0, rfl, G0⟩
  case round =>
    obtain ⟨k, hk, rfl, va, vl, vc, rfl, GA⟩ := hrel
    have y3 := GA.out.c3
    by_cases hk2 : k < n
    · have dk : decide ((k : Int) < (n : Int)) = true := decide_eq_true (by omega)
      obtain ⟨t, kb, ko, sa, sn, sc, rfl, htk, hh⟩ := KD.out k hk2
      obtain ⟨q0, q1, q2, q3, SM⟩ := hh wr GA.out.below
      have wrp : IntKind.i64.wrap ((k : Int) + 1) = (k : Int) + 1 := by rw [IntKind.wrap_i64]; omega
      obtain ⟨cs, hcs, hkr⟩ := GA.out.row
      obtain ⟨_, _, hform⟩ := hkr.form
      have hvl : vl = cs.length := by simp at hform; exact hform.2.1
      have hcl : cs.length ≤ k := by
        have := congrArg List.length hcs
        simp at this
        omega
      subst hvl
      have HT : Hid (_) := htk
      clear hh KD htk hform
      obtain ⟨i0, hi0, hz0, hz1, hz2⟩ := info_parts infoForm
      generalize hte : t.er = te at *
      clear hte
      generalize t.op = top at *
      generalize t.x = tx at *
      generalize t.y = ty at *
      go_wp2_with (first | (go_at_call 6; refine SM.mono ?_; rintro e w3 ⟨v3, rfl, F3, B3⟩; obtain ⟨op3, x3, y3', a3, n3, c3, rfl⟩ := F3.form) | (at_builtin; refine Aside.out ?_))
      delta Aside
      have BA := ((Below.refl w3.heap.size w3).alloc (Nat.le_refl _) (.cells #[.int .i64 op3, .int .i64 x3, .int .i64 y3', .slice a3 n3 c3] 31)).alloc (by simp) (.cells #[.int .i64 op3, .int .i64 x3, .int .i64 y3', .slice a3 n3 c3] 31)
      have hz3 : (w3.alloc (.cells #[.int .i64 op3, .int .i64 x3, .int .i64 y3', .slice a3 n3 c3] 31)).heap.size = w3.heap.size + 1 := by simp
      have C4 := cell_four (w3.alloc (.cells #[.int .i64 op3, .int .i64 x3, .int .i64 y3', .slice a3 n3 c3] 31)) (.int .i64 op3) (.int .i64 x3) (.int .i64 y3') (.slice a3 n3 c3) 31
      rw [hz3] at C4
      have B5 := B3.trans (BA.mono B3.size)
      have K5 := hkr.below B5
      have hb5 := BA.size
      generalize (w3.alloc (.cells #[.int .i64 op3, .int .i64 x3, .int .i64 y3', .slice a3 n3 c3] 31)).alloc (.cells #[.int .i64 op3, .int .i64 x3, .int .i64 y3', .slice a3 n3 c3] 31) = w5 at BA C4 B5 K5 hb5 ⊢
      have hs3 := B3.size
      have hsw : w.heap.size + 2 ≤ wr.heap.size := by have := GA.out.res.lt; omega
      refine wpList_append_own_at _ rfl _ _ 29 rfl (w.heap.size + 2) 31 i0 _ 4 48 Try.underlying29 hi0 hz0 hz1 hz2 rfl (by decide) _ _ _ rfl K5.1 ⟨_, 0, none⟩ 1 1 [.int .i64 op3, .int .i64 x3, .int .i64 y3', .slice a3 n3 c3] rfl rfl C4 (by simp [Value.oneCell']) (by unfold maxLen; omega) (by omega) (by omega) ?_
      intro v8 w8 hown8 hgrow8 _ hat8
      obtain ⟨va8, vc8, hv8⟩ := row_formG hown8
      subst hv8
      have HT' := HT.out
      obtain ⟨op4, x4, y4, kv4, ks4, e4, h41, h42, h43⟩ := F3
      have hnew : KR (w.heap.size + 2) w8 (.slice va8 (cs.length + 1) vc8) (cs ++ [.mk 0 0 op4 x4 y4 kv4 ks4]) := by
        simp at e4
        obtain ⟨rfl, rfl, rfl, rfl⟩ := e4
        exact hkr.push hsw B5 h41 (fun k hk => (h42 k hk).keep (fun i _ _ _ hi => (BA.block i (Array.getElem?_eq_some_iff.1 hi).1).trans hi)) hown8 hgrow8 hat8
      have G8 : Hid (_) := GA.out.next B5 hgrow8 (fs' := fs.take (k + 1)) ⟨_, by rw [HT', List.map_append, hcs, h43]; simp [Lf.er], hnew⟩
      clear hnew h41 h42 h43 e4 HT' hown8 hgrow8 hat8 K5 C4 BA B5 hkr hcs SM q0 q1 q2 q3
      go_wp2_with fail
      exact ⟨⟨k + 1, hk2, by simp, _, _, _, rfl, G8⟩, by simp [intOf]; omega⟩
    · have dk : decide ((k : Int) < (n : Int)) = false := decide_eq_false (by omega)
      obtain rfl : k = n := by omega
      have y0 := GA.out.c0
      have y1 := GA.out.c1
      have y2 := GA.out.c2
      have r0 := GA.out.res.cell (i := 0) (by omega)
      have r1 := GA.out.res.cell (i := 1) (by omega)
      have r2 := GA.out.res.cell (i := 2) (by omega)
      have r3 := GA.out.res.cell (i := 3) (by omega)
      have f0 := GA.out.res.frozen 0
      have f1 := GA.out.res.frozen 1
      have f2 := GA.out.res.frozen 2
      have f3 := GA.out.res.frozen 3
      simp only [Nat.reduceEqDiff, if_false, if_true] at r0 r1 r2 r3
      clear KD
      go_wp2_with fail
      obtain ⟨cs, hcs, hkr⟩ := GA.out.row
      have D := hkr.done op x y
      rw [hcs] at D
      have b4 := GA.out.below
      have R4 := (((GA.out.res.set 0 (.int .i64 op)).set 1 (.int .i64 x)).set 2 (.int .i64 y)).set 3 (.slice va vl vc)
      have K4 : FKeep (w.heap.size + 2) wr ((((wr.setCell ⟨w.heap.size + 1, 0, none⟩ (.int .i64 op)).setCell ⟨w.heap.size + 1, 1, none⟩ (.int .i64 x)).setCell ⟨w.heap.size + 1, 2, none⟩ (.int .i64 y)).setCell ⟨w.heap.size + 1, 3, none⟩ (.slice va vl vc)) :=
        (((FKeep.setCell wr (by omega) 0 _).trans (FKeep.setCell _ (by omega) 1 _)).trans (FKeep.setCell _ (by omega) 2 _)).trans (FKeep.setCell _ (by omega) 3 _)
      have b5 : Below w.heap.size w ((((wr.setCell ⟨w.heap.size + 1, 0, none⟩ (.int .i64 op)).setCell ⟨w.heap.size + 1, 1, none⟩ (.int .i64 x)).setCell ⟨w.heap.size + 1, 2, none⟩ (.int .i64 y)).setCell ⟨w.heap.size + 1, 3, none⟩ (.slice va vl vc)) :=
        (((b4.setCell (p := ⟨w.heap.size + 1, 0, none⟩) (by show w.heap.size ≤ w.heap.size + 1; omega) _).setCell (p := ⟨w.heap.size + 1, 1, none⟩) (by show w.heap.size ≤ w.heap.size + 1; omega) _).setCell (p := ⟨w.heap.size + 1, 2, none⟩) (by show w.heap.size ≤ w.heap.size + 1; omega) _).setCell (p := ⟨w.heap.size + 1, 3, none⟩) (by show w.heap.size ≤ w.heap.size + 1; omega) _
      have D4 := (FVal.keep K4 D).mono (B' := w.heap.size) (by omega)
      generalize ((((wr.setCell ⟨w.heap.size + 1, 0, none⟩ (.int .i64 op)).setCell ⟨w.heap.size + 1, 1, none⟩ (.int .i64 x)).setCell ⟨w.heap.size + 1, 2, none⟩ (.int .i64 y)).setCell ⟨w.heap.size + 1, 3, none⟩ (.slice va vl vc)) = wz at R4 D4 b5 ⊢
      have z0 : wz.cell? ⟨w.heap.size + 1, 0, none⟩ = some (.int .i64 op) := by simpa using R4.cell (i := 0) (by omega)
      have z1 : wz.cell? ⟨w.heap.size + 1, 1, none⟩ = some (.int .i64 x) := by simpa using R4.cell (i := 1) (by omega)
      have z2 : wz.cell? ⟨w.heap.size + 1, 2, none⟩ = some (.int .i64 y) := by simpa using R4.cell (i := 2) (by omega)
      have z3 : wz.cell? ⟨w.heap.size + 1, 3, none⟩ = some (.slice va vl vc) := by simpa using R4.cell (i := 3) (by omega)
      refine ⟨rfl, .agg #[.int .i64 op, .int .i64 x, .int .i64 y, .slice va vl vc], by simp [results, Try.results6, go_sem, z0, z1, z2, z3], _, rfl, D4, b5⟩

/-- Given makes a Form of the program's. -/
theorem gvt : ∀ t : Lf, GvT t
  | .mk b o op x y kv kids => gvt_step _ fun k hk => by
    have : k ∈ kids := hk
    have := List.sizeOf_lt_of_mem this
    exact gvt k
termination_by t => SizeOf.sizeOf t
decreasing_by simp; omega

end Go.Proofs.Ytinphcnknionmab
