/- law07: alive: Parse. -/
import Derived.Test.YtlehlgipbhfioaaGreatP51
namespace Go.Proofs.YtlehlgipbhfioaaGreat
open Go.RowKit Go.Maps

theorem num7_any (w : World) (a : Int) : Calls Tryz.prog 10 #[.int .i64 a] w fun e w' => e = .returned (.int .i64 a) ∧ w = w' := by
  go_enter Tryz.func10, Tryz.ntmps10
  go_wp2
  go_ret
  exact ⟨rfl, rfl⟩
theorem Bk.fk {W W' : World} {base p : Nat} {ev : Value} {nb fb : Nat} {l : List Tm} (h : Bk W base p ev nb fb l) (K : Kept (BFoot p ev nb fb) W W') : FKeep 0 W W' := by
  refine FKeep.of_kept K (fun k hk c fz hc => ?_) 0
  obtain ⟨D, d1, _⟩ := h.nums
  obtain ⟨E, e1, _⟩ := h.fsts
  rcases hk with rfl | rfl | rfl | e
  · obtain ⟨c', h1, _⟩ := h.bank
    rw [hc] at h1
    cases h1
  · exact mapIs_ne d1 c _ fz hc
  · exact mapIs_ne e1 c _ fz hc
  · exact ownsRow_ne h.rows e (by decide) c fz hc
theorem parse7_in (W : World) (base p : Nat) (ev : Value) (nb fb : Nat) (l : List Tm) (h : Bk W base p ev nb fb l) (hl : l.length ≤ 150) (hb : base ≤ W.heap.size) (s : ByteArray) (f : Fo) (l' : List Tm) (hp : gParse s l = (f, 0, 0, l')) :
    Calls Tryz.prog 17 #[.pointer (some ⟨p, 0, none⟩), .string s] W fun e w' => ∃ (op x y : Int) (ka : Option Addr) (kn kc : Nat), e = .returned (.tuple #[.agg #[.int .i64 op, .int .i64 x, .int .i64 y, .slice ka kn kc], .int .i64 0, .int .i64 0]) ∧ Hid (FIs w' (.agg #[.int .i64 op, .int .i64 x, .int .i64 y, .slice ka kn kc]) f ∧ (∃ ev', Bk w' base p ev' nb fb l') ∧ FKeep 0 W w' ∧ Below base W w') := by
  have PA := gParse_in W base p ev nb fb l h hl hb s
  rw [hp] at PA
  refine PA.mono ?_
  rintro e w' ⟨v, rfl, FV, ev', B', K', _, _⟩
  obtain ⟨op, x, y, kv, kids, rfl, h2, h3, h4⟩ := id FV
  obtain ⟨ka, kc, rfl, _⟩ := id h2
  refine ⟨op, x, y, ka, _, kc, rfl, FV.is, ⟨ev', B'⟩, h.fk K', K'.below hb (fun k e => ?_)⟩
  rcases e with e | e | e | e
  · rw [e]; exact h.bp
  · rw [e]; exact h.bn
  · rw [e]; exact h.bf
  · exact (ownsRow_lt h.rows e).1
/-- A Form in a box. -/
def Bx7 (W : World) (b : Nat) (op x y : Int) (ka : Option Addr) (kn kc : Nat) (f : Fo) : Prop := W.rowIs b 36 4 (boxQ op x y (.slice ka kn kc)) ∧ FIs W (.agg #[.int .i64 op, .int .i64 x, .int .i64 y, .slice ka kn kc]) f
theorem Bx7.keep {W W' : World} {b : Nat} {op x y : Int} {ka : Option Addr} {kn kc : Nat} {f : Fo} (h : Bx7 W b op x y ka kn kc f) (K : FKeep 0 W W') : Bx7 W' b op x y ka kn kc f := ⟨rowIs_keep K (Nat.zero_le _) h.1, FValA.keep (K.toA _) h.2⟩
theorem FKeep.bel {W W' : World} (h : Below W.heap.size W W') : FKeep 0 W W' := fun _ _ _ _ hc => (h.block _ (Array.getElem?_eq_some_iff.1 hc).1).trans hc
theorem Bx7.new {W : World} {op x y : Int} {ka : Option Addr} {kn kc : Nat} {f : Fo} (h : FIs W (.agg #[.int .i64 op, .int .i64 x, .int .i64 y, .slice ka kn kc]) f) : Bx7 (W.alloc (.cells #[.int .i64 op, .int .i64 x, .int .i64 y, .slice ka kn kc] 36)) W.heap.size op x y ka kn kc f :=
  ⟨(made_row W #[.int .i64 op, .int .i64 x, .int .i64 y, .slice ka kn kc] 36).congr (fun j hj => by
    have : j = 0 ∨ j = 1 ∨ j = 2 ∨ j = 3 := by simp at hj; omega
    rcases this with rfl | rfl | rfl | rfl <;> rfl), h.keep ((Below.refl _ _).alloc (Nat.le_refl _) _)⟩
theorem Bx7.cells {W : World} {b : Nat} {op x y : Int} {ka : Option Addr} {kn kc : Nat} {f : Fo} (h : Bx7 W b op x y ka kn kc f) : W.cell? ⟨b, 0, none⟩ = some (.int .i64 op) ∧ W.cell? ⟨b, 1, none⟩ = some (.int .i64 x) ∧ W.cell? ⟨b, 2, none⟩ = some (.int .i64 y) ∧ W.cell? ⟨b, 3, none⟩ = some (.slice ka kn kc) :=
  ⟨h.1.cell (i := 0) (by omega), h.1.cell (i := 1) (by omega), h.1.cell (i := 2) (by omega), h.1.cell (i := 3) (by omega)⟩
/-- .. as a Form of a row. -/
theorem Bx7.lf {W W' : World} {b : Nat} {op x y : Int} {ka : Option Addr} {kn kc : Nat} {f : Fo} (h : Bx7 W b op x y ka kn kc f) (K : FKeep 0 W W') {N : Nat} (hw : WfR N f) : ∃ t : Lf, formC t = [.int .i64 op, .int .i64 x, .int .i64 y, .slice ka kn kc] ∧ t.er = f ∧ KidsIn t.kv t.kids ∧ (∀ k ∈ t.kids, Here W' k) ∧ WfR N t.er := by
  obtain ⟨op2, x2, y2, kv, kids, e, h2, h3, h4⟩ := h.2
  cases e
  have e2 : (Lf.mk 0 0 op x y (.slice ka kn kc) kids).er = f := by rw [Lf.er, h4]
  exact ⟨.mk 0 0 op x y (.slice ka kn kc) kids, rfl, e2, h2, fun k hk => (h3 k hk).keep (K.toA _), by rw [e2]; exact hw⟩
theorem l7_bd : Cc.Bd l7 := by
  have h1 : ∀ t ∈ l7, ∀ a ∈ t.args, a < 6 := by decide
  exact ⟨fun n t ht a ha => h1 t (List.mem_of_getElem? ht) a ha, by decide, by decide, by decide⟩
theorem cost7 : 1 + ([f7a, f7b, f7c, f7d].map cF).sum ≤ 601 ∧ 1 + ([f7a, f7b, f7c].map cF).sum ≤ 601 := by
  simp [f7a, f7b, f7c, f7d, foE, Fo.eq, Fo.neg, Fo.two, cF]
theorem ask7t {W : World} {pa : Option Addr} {pc : Nat} {ks : List Lf} (hs : SlF W 6 (.slice pa ks.length pc) ks) (he : ks.map Lf.er = [f7a, f7b, f7c]) : Asked W l7 pa pc ks p7 (fm7.take 3) :=
  ⟨hs, by rw [cS_er, he]; exact cost7.2, by rw [he]; exact fos7t, by rw [he]; exact adds7, am7t.fsok (by decide) (fun n hn => List.mem_range.1 hn), has7t, vrp7, few7⟩
theorem ask7 {W : World} {pa : Option Addr} {pc : Nat} {ks : List Lf} (hs : SlF W 6 (.slice pa ks.length pc) ks) (he : ks.map Lf.er = [f7a, f7b, f7c, f7d]) : Asked W l7 pa pc ks p7 fm7 :=
  ⟨hs, by rw [cS_er, he]; exact cost7.1, by rw [he]; exact fos7, by rw [he]; exact adds7d, am7.fsok (by decide) (fun n hn => List.mem_range.1 hn), has7, vrp7, few7⟩
/-- A row of Forms that is made at once. -/
theorem made_slf {W : World} {N : Nat} {ts : List Lf} {C : Array Value} (hC : C.toList = ts.flatMap formC) (hl : ts.length ≤ 1000) (ht : ∀ t ∈ ts, KidsIn t.kv t.kids ∧ (∀ k ∈ t.kids, Here (W.alloc (.cells C 36)) k) ∧ WfR N t.er) : ∃ ks, SlF (W.alloc (.cells C 36)) N (.slice (some ⟨W.heap.size, 0, none⟩) ts.length ts.length) ks ∧ ks.map Lf.er = ts.map Lf.er ∧ ks.length = ts.length := by
  have hlen := formC_len ts
  refine row_slf (B := 0) ⟨hlen, Or.inr ⟨W.heap.size, ts.length, C, rfl, Nat.zero_le _, heap_alloc_new _ _, Nat.le_refl _, by unfold maxLen; omega, ?_, ?_⟩⟩ ht
  · rw [← Array.length_toList, hC, hlen]
  · rw [hC]
    exact List.take_of_length_le (by omega)

set_option maxRecDepth 100000 in
set_option maxHeartbeats 4000000 in
theorem alive7_any (w : World) : Calls Tryz.prog 6 #[] w fun e w' => e = .returned (.bool true) ∧ Below w.heap.size w w' := by
  have NEW := tNew_any w
  have NEW2 : Calls Tryz.prog 12 #[] w fun e w' => ∃ p, e = .returned (.pointer (some ⟨p, 0, none⟩)) ∧ Hid ((∃ ev nb fb, Bk w' w.heap.size p ev nb fb []) ∧ Below w.heap.size w w') := by
    refine NEW.mono ?_
    rintro e w' ⟨p, nb, fb, rfl, H1, B1⟩
    exact ⟨p, rfl, ⟨_, _, _, H1⟩, B1⟩
  have HP : Hid (∀ (W : World) (p : Nat) (l : List Tm) (s : ByteArray) (f : Fo) (l' : List Tm), gParse s l = (f, 0, 0, l') → l.length ≤ 150 → ((∃ ev nb fb, Bk W w.heap.size p ev nb fb l) ∧ Below w.heap.size w W) → Calls Tryz.prog 17 #[.pointer (some ⟨p, 0, none⟩), .string s] W fun e w' => ∃ (op x y : Int) (ka : Option Addr) (kn kc : Nat), e = .returned (.tuple #[.agg #[.int .i64 op, .int .i64 x, .int .i64 y, .slice ka kn kc], .int .i64 0, .int .i64 0]) ∧ Hid (Bx7 (w'.alloc (.cells #[.int .i64 op, .int .i64 x, .int .i64 y, .slice ka kn kc] 36)) w'.heap.size op x y ka kn kc f ∧ FKeep 0 W (w'.alloc (.cells #[.int .i64 op, .int .i64 x, .int .i64 y, .slice ka kn kc] 36)) ∧ (∃ ev nb fb, Bk (w'.alloc (.cells #[.int .i64 op, .int .i64 x, .int .i64 y, .slice ka kn kc] 36)) w.heap.size p ev nb fb l') ∧ Below w.heap.size w (w'.alloc (.cells #[.int .i64 op, .int .i64 x, .int .i64 y, .slice ka kn kc] 36)))) := by
    rintro W p l s f l' hp hl ⟨⟨ev, nb, fb, hB⟩, hb⟩
    refine (parse7_in W w.heap.size p ev nb fb l hB hl hb.size s f l' hp).mono ?_
    rintro e w' ⟨op, x, y, ka, kn, kc, rfl, H⟩
    obtain ⟨h1, ⟨ev', h2⟩, h3, h4⟩ := H.out
    have hA : Below w'.heap.size w' (w'.alloc (.cells #[.int .i64 op, .int .i64 x, .int .i64 y, .slice ka kn kc] 36)) := (Below.refl _ _).alloc (Nat.le_refl _) _
    have hbw := hb.trans h4
    exact ⟨op, x, y, ka, kn, kc, rfl, Bx7.new h1, h3.trans (FKeep.alloc 0 w' _), ⟨ev', nb, fb, h2.below h2.low hA⟩, hbw.trans (hA.mono hbw.size)⟩
  clear NEW
  go_enter Tryz.func6, Tryz.ntmps6
  go_wp2_with (first | (go_at_call 12; refine NEW2.mono ?_; rintro e w1 ⟨p, rfl, H1⟩; have PA := HP.out w1 p [] _ _ _ pa7a (by decide) H1.out) | (go_at_call 17; refine PA.mono ?_; rintro e w2 ⟨op1, x1, y1, ka1, kn1, kc1, rfl, H2⟩; refine Aside.out ?_))
  delta Aside
  have PA2 := HP.out (w2.alloc (.cells #[.int .i64 op1, .int .i64 x1, .int .i64 y1, .slice ka1 kn1 kc1] 36)) p _ _ _ _ pa7b (by decide) H2.out.2.2
  clear PA
  apply_assumption
  go_wp2_with (first | (go_at_call 17; refine PA2.mono ?_; rintro e w3 ⟨op2, x2, y2, ka2, kn2, kc2, rfl, H3⟩; refine Aside.out ?_))
  delta Aside
  have PA3 := HP.out (w3.alloc (.cells #[.int .i64 op2, .int .i64 x2, .int .i64 y2, .slice ka2 kn2 kc2] 36)) p _ _ _ _ pa7c (by decide) H3.out.2.2
  clear PA2
  apply_assumption
  go_wp2_with (first | (go_at_call 17; refine PA3.mono ?_; rintro e w4 ⟨op3, x3, y3, ka3, kn3, kc3, rfl, H4⟩; refine Aside.out ?_))
  delta Aside
  have PA4 := HP.out (w4.alloc (.cells #[.int .i64 op3, .int .i64 x3, .int .i64 y3, .slice ka3 kn3 kc3] 36)) p _ _ _ _ pa7d (by decide) H4.out.2.2
  clear PA3
  apply_assumption
  go_wp2_with (first | (go_at_call 17; refine PA4.mono ?_; rintro e w5 ⟨op4, x4, y4, ka4, kn4, kc4, rfl, H5⟩; refine Aside.out ?_))
  delta Aside
  have b4 := H5.out.1
  have b3 := H4.out.1.keep H5.out.2.1
  have b2 := (H3.out.1.keep H4.out.2.1).keep H5.out.2.1
  have b1 := ((H2.out.1.keep H3.out.2.1).keep H4.out.2.1).keep H5.out.2.1
  have hbk := H5.out.2.2
  obtain ⟨W, hW⟩ : ∃ W, w5.alloc (.cells #[.int .i64 op4, .int .i64 x4, .int .i64 y4, .slice ka4 kn4 kc4] 36) = W := ⟨_, rfl⟩
  rw [hW] at b1 b2 b3 b4 hbk
  obtain ⟨⟨ev, nb, fb, hBk⟩, hbW⟩ := hbk
  have DY : Calls Tryz.prog 8 #[.pointer (some ⟨p, 0, none⟩), .slice (some ⟨W.heap.size, 0, none⟩) 3 3] (W.alloc (.cells #[.int .i64 op1, .int .i64 x1, .int .i64 y1, .slice ka1 kn1 kc1, .int .i64 op2, .int .i64 x2, .int .i64 y2, .slice ka2 kn2 kc2, .int .i64 op3, .int .i64 x3, .int .i64 y3, .slice ka3 kn3 kc3] 36)) fun e w' => ∃ ca cn cc, e = .returned (.tuple #[.agg #[.bool true, .slice ca cn cc, .slice none 0 0], .int .i64 0]) ∧ Hid (Below W.heap.size W w') := by
    have hA : Below W.heap.size W (W.alloc (.cells #[.int .i64 op1, .int .i64 x1, .int .i64 y1, .slice ka1 kn1 kc1, .int .i64 op2, .int .i64 x2, .int .i64 y2, .slice ka2 kn2 kc2, .int .i64 op3, .int .i64 x3, .int .i64 y3, .slice ka3 kn3 kc3] 36)) := (Below.refl _ _).alloc (Nat.le_refl _) _
    obtain ⟨t1, f1, e1, k1⟩ := b1.lf (FKeep.bel hA) wf7a
    obtain ⟨t2, f2, e2, k2⟩ := b2.lf (FKeep.bel hA) wf7b
    obtain ⟨t3, f3, e3, k3⟩ := b3.lf (FKeep.bel hA) wf7c
    obtain ⟨ks, s1, s2, s3⟩ := made_slf (W := W) (N := 6) (ts := [t1, t2, t3]) (C := #[.int .i64 op1, .int .i64 x1, .int .i64 y1, .slice ka1 kn1 kc1, .int .i64 op2, .int .i64 x2, .int .i64 y2, .slice ka2 kn2 kc2, .int .i64 op3, .int .i64 x3, .int .i64 y3, .slice ka3 kn3 kc3]) (by simp [f1, f2, f3]) (by simp) (fun t ht => by
      simp only [List.mem_cons, List.not_mem_nil, or_false] at ht
      rcases ht with rfl | rfl | rfl
      · exact k1
      · exact k2
      · exact k3)
    have s3' : ks.length = 3 := s3
    have D := decide_yes _ w.heap.size p ev nb fb l7 (hBk.below hBk.low hA) l7_bd (by decide) (some ⟨W.heap.size, 0, none⟩) 3 ks p7 (fm7.take 3) (ask7t (by rw [s3']; exact s1) (by rw [s2]; simp only [List.map_cons, List.map_nil, e1, e2, e3])) 2 (Nat.le_refl _) mdl7
    rw [s3'] at D
    refine D.mono ?_
    rintro e w' ⟨ca, cn, cc, rfl, h9⟩
    exact ⟨ca, cn, cc, rfl, hA.trans (h9.mono hA.size)⟩
  have HDN : Hid (∀ V, Below W.heap.size W V → Calls Tryz.prog 8 #[.pointer (some ⟨p, 0, none⟩), .slice (some ⟨V.heap.size, 0, none⟩) 4 4] (V.alloc (.cells #[.int .i64 op1, .int .i64 x1, .int .i64 y1, .slice ka1 kn1 kc1, .int .i64 op2, .int .i64 x2, .int .i64 y2, .slice ka2 kn2 kc2, .int .i64 op3, .int .i64 x3, .int .i64 y3, .slice ka3 kn3 kc3, .int .i64 op4, .int .i64 x4, .int .i64 y4, .slice ka4 kn4 kc4] 36)) fun e w' => ∃ ca cc, e = .returned (.tuple #[.agg #[.bool false, .slice none 0 0, .slice ca 4 cc], .int .i64 0]) ∧ Hid (Below V.heap.size V w')) := fun V hV => by
    have hA : Below V.heap.size V (V.alloc (.cells #[.int .i64 op1, .int .i64 x1, .int .i64 y1, .slice ka1 kn1 kc1, .int .i64 op2, .int .i64 x2, .int .i64 y2, .slice ka2 kn2 kc2, .int .i64 op3, .int .i64 x3, .int .i64 y3, .slice ka3 kn3 kc3, .int .i64 op4, .int .i64 x4, .int .i64 y4, .slice ka4 kn4 kc4] 36)) := (Below.refl _ _).alloc (Nat.le_refl _) _
    have hWA : Below W.heap.size W (V.alloc (.cells #[.int .i64 op1, .int .i64 x1, .int .i64 y1, .slice ka1 kn1 kc1, .int .i64 op2, .int .i64 x2, .int .i64 y2, .slice ka2 kn2 kc2, .int .i64 op3, .int .i64 x3, .int .i64 y3, .slice ka3 kn3 kc3, .int .i64 op4, .int .i64 x4, .int .i64 y4, .slice ka4 kn4 kc4] 36)) := hV.trans (hA.mono hV.size)
    obtain ⟨t1, f1, e1, k1⟩ := b1.lf (FKeep.bel hWA) wf7a
    obtain ⟨t2, f2, e2, k2⟩ := b2.lf (FKeep.bel hWA) wf7b
    obtain ⟨t3, f3, e3, k3⟩ := b3.lf (FKeep.bel hWA) wf7c
    obtain ⟨t4, f4, e4, k4⟩ := b4.lf (FKeep.bel hWA) wf7d
    obtain ⟨ks, s1, s2, s3⟩ := made_slf (W := V) (N := 6) (ts := [t1, t2, t3, t4]) (C := #[.int .i64 op1, .int .i64 x1, .int .i64 y1, .slice ka1 kn1 kc1, .int .i64 op2, .int .i64 x2, .int .i64 y2, .slice ka2 kn2 kc2, .int .i64 op3, .int .i64 x3, .int .i64 y3, .slice ka3 kn3 kc3, .int .i64 op4, .int .i64 x4, .int .i64 y4, .slice ka4 kn4 kc4]) (by simp [f1, f2, f3, f4]) (by simp) (fun t ht => by
      simp only [List.mem_cons, List.not_mem_nil, or_false] at ht
      rcases ht with rfl | rfl | rfl | rfl
      · exact k1
      · exact k2
      · exact k3
      · exact k4)
    have s3' : ks.length = 4 := s3
    have D := decide_no _ w.heap.size p ev nb fb l7 (hBk.below hBk.low hWA) l7_bd (by decide) (some ⟨V.heap.size, 0, none⟩) 4 ks p7 fm7 (ask7 (by rw [s3']; exact s1) (by rw [s2]; simp only [List.map_cons, List.map_nil, e1, e2, e3, e4])) am7 q7 ok7 two7 6 [0, 1, 3, 2] q7 eno7B [0, 1, 2, 3] ⟨by decide, by decide⟩ (by decide) (by decide) [0, 1, 2, 3] q7 cor7B
    rw [s3'] at D
    refine D.mono ?_
    rintro e w' ⟨ca, cc, rfl, h9⟩
    exact ⟨ca, cc, rfl, hA.trans (h9.mono hA.size)⟩
  obtain ⟨c10, c11, c12, c13⟩ := b1.cells
  obtain ⟨c20, c21, c22, c23⟩ := b2.cells
  obtain ⟨c30, c31, c32, c33⟩ := b3.cells
  have HBB : Hid (_ ∧ _ ∧ _ ∧ _ ∧ _) := And.intro b1 (And.intro b2 (And.intro b3 (And.intro b4 hbW)))
  clear PA4 H1 H2 H3 H4 H5 b1 b2 b3 b4 HP NEW2 hBk hbW
  apply_assumption
  go_wp2_with (first | (go_at_call 8; refine DY.mono ?_; rintro e w6 ⟨ca, cn, cc, rfl, H6⟩; refine Aside.out ?_))
  delta Aside
  have hA7 : Below w6.heap.size w6 (w6.alloc (.cells #[.bool true, .slice ca cn cc, .slice none 0 0] 41)) := (Below.refl _ _).alloc (Nat.le_refl _) _
  have hW7 : Below W.heap.size W (w6.alloc (.cells #[.bool true, .slice ca cn cc, .slice none 0 0] 41)) := H6.out.trans (hA7.mono H6.out.size)
  have AN := made_row w6 #[.bool true, .slice ca cn cc, .slice none 0 0] 41
  have DN := HDN.out _ hW7
  obtain ⟨d10, d11, d12, d13⟩ := (HBB.out.1.keep (FKeep.bel hW7)).cells
  obtain ⟨d20, d21, d22, d23⟩ := (HBB.out.2.1.keep (FKeep.bel hW7)).cells
  obtain ⟨d30, d31, d32, d33⟩ := (HBB.out.2.2.1.keep (FKeep.bel hW7)).cells
  obtain ⟨d40, d41, d42, d43⟩ := (HBB.out.2.2.2.1.keep (FKeep.bel hW7)).cells
  have HW7 : Hid (_ ∧ _) := And.intro hW7 (And.intro HBB.out.2.2.2.2 AN)
  have hv2 : (w6.alloc (.cells #[.bool true, .slice ca cn cc, .slice none 0 0] 41)).cell? ⟨w6.heap.size, 2, none⟩ = some (.slice none 0 0) := AN.cell (i := 2) (by simp)
  have hf2 := AN.frozen 2
  have hs2 : (w6.alloc (.cells #[.bool true, .slice ca cn cc, .slice none 0 0] 41)).setCell ⟨w6.heap.size, 2, none⟩ (.slice none 0 0) = w6.alloc (.cells #[.bool true, .slice ca cn cc, .slice none 0 0] 41) := by simp [go_sem]
  obtain ⟨V, hV⟩ : ∃ V, w6.alloc (.cells #[.bool true, .slice ca cn cc, .slice none 0 0] 41) = V := ⟨_, rfl⟩
  rw [hV] at DN d10 d11 d12 d13 d20 d21 d22 d23 d30 d31 d32 d33 d40 d41 d42 d43 HW7 hv2 hf2 hs2
  clear DY HDN c10 c11 c12 c13 c20 c21 c22 c23 c30 c31 c32 c33 hA7 hW7 AN HBB H6 hW
  apply_assumption
  go_wp2_with (first | (go_at_call 8; refine DN.mono ?_; rintro e w8 ⟨ca8, cc8, rfl, H8⟩; refine Aside.out ?_))
  delta Aside
  obtain ⟨hBV, hBw, hAN⟩ := HW7.out
  have hA9 : Below w8.heap.size w8 (w8.alloc (.cells #[.bool false, .slice none 0 0, .slice ca8 4 cc8] 41)) := (Below.refl _ _).alloc (Nat.le_refl _) _
  have hV8 : Below V.heap.size V (w8.alloc (.cells #[.bool false, .slice none 0 0, .slice ca8 4 cc8] 41)) := H8.out.trans (hA9.mono H8.out.size)
  have an0 : V.cell? ⟨w6.heap.size, 0, none⟩ = some (.bool true) := World.rowIs.cell hAN (i := 0) (by simp)
  have am0 := (hV8.cell (World.block_lt_of_cell? V _ an0)).trans an0
  have AM := made_row w8 #[.bool false, .slice none 0 0, .slice ca8 4 cc8] 41
  have m0 : (w8.alloc (.cells #[.bool false, .slice none 0 0, .slice ca8 4 cc8] 41)).cell? ⟨w8.heap.size, 0, none⟩ = some (.bool false) := AM.cell (i := 0) (by simp)
  have m2 : (w8.alloc (.cells #[.bool false, .slice none 0 0, .slice ca8 4 cc8] 41)).cell? ⟨w8.heap.size, 2, none⟩ = some (.slice ca8 4 cc8) := AM.cell (i := 2) (by simp)
  have HF : Hid (Below w.heap.size w (w8.alloc (.cells #[.bool false, .slice none 0 0, .slice ca8 4 cc8] 41))) := by
    have h1 : Below w.heap.size w V := hBw.trans (hBV.mono hBw.size)
    exact h1.trans (hV8.mono h1.size)
  clear DN d10 d11 d12 d13 d20 d21 d22 d23 d30 d31 d32 d33 d40 d41 d42 d43 HW7 hv2 hf2 hs2 hV hBV hBw hAN hA9 hV8 an0 AM H8
  apply_assumption
  go_wp2_with (first | (go_at_call 10; refine (num7_any _ _).mono ?_; rintro e w9 ⟨rfl, rfl⟩))
  go_ret
  exact ⟨rfl, HF.out⟩
end Go.Proofs.YtlehlgipbhfioaaGreat
