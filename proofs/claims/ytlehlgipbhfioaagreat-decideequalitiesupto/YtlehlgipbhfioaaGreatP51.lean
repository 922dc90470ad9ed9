/- Package logic: whole, its deferred function; Parse. law07: what alive comes to, reckoned. law07: what alive's texts say. law07: alive, plainly. slices.Concat of Forms (made of DeM by a script). Package decide: rows of Forms. Package decide: Follows. law07: equalities, plainly. -/
import Derived.Test.YtlehlgipbhfioaaGreatLoK
import Derived.Test.YtlehlgipbhfioaaGreatP19
import Derived.Test.YtlehlgipbhfioaaGreatP45
import Derived.KernelRfl
import Derived.Test.YtlehlgipbhfioaaGreatP46
import Derived.Test.YtlehlgipbhfioaaGreatP44
import Derived.Test.YtlehlgipbhfioaaGreatP40
namespace Go.Proofs.YtlehlgipbhfioaaGreat
open Go.RowKit Go.Maps

theorem gassert_nil (w : World) : (Instr.typeAssert .nilIface 20 155 true).run Tryz.prog w = .ok (.tuple #[.agg #[.int .i64 0, .int .i64 0], .bool false]) w := by kernel_rfl
theorem gassert_ref (w : World) (v : Value) : (Instr.typeAssert (.iface 155 v) 20 155 true).run Tryz.prog w = .ok (.tuple #[v, .bool true]) w := by kernel_rfl

theorem rep13 : Array.replicate 13 undef = #[undef, undef, undef, undef, undef, undef, undef, undef, undef, undef, undef, undef, undef] := rfl

set_option maxHeartbeats 1000000 in
theorem gcatch_idle (a1 a2 a3 : Value) (w : World) :
    CallsD Tryz.prog 66 #[a1, a2, a3] .returning w fun e u' w' => e = .returned (.tuple #[]) ∧ u' = .returning ∧ w' = w.alloc (.cells #[.int .i64 0, .int .i64 0] 155) := by
  refine callsD_of_wpS Tryz.func66 rfl fun c₀ cs hu => ?_
  apply wpS_seq
  apply wpS_region
  simp [wpOpsS, go_sem, recoverD, hu, Tryz.ntmps66, Exit.thenS, gassert_nil, rep13]
  refine wpS_of_wp ?_
  go_wp2
  cases c₀
  simp_all [bodyPostS, results, Tryz.results66]

/-- whole's three boxes. -/
structure GBoxes (w : World) (b : Nat) (v0 v1 v2 v3 v4 v5 : Value) : Prop where
  f : w.rowIs b 36 4 (frm v0 v1 v2 v3)
  e : Box w (b + 1) 37 v4
  q : Box w (b + 2) 3 v5

theorem GBoxes.kept {w w' : World} {S : Nat → Prop} {b : Nat} {v0 v1 v2 v3 v4 v5 : Value} (h : GBoxes w b v0 v1 v2 v3 v4 v5) (K : Kept S w w') (hS : ∀ k, b ≤ k → k ≤ b + 2 → ¬ S k) : GBoxes w' b v0 v1 v2 v3 v4 v5 :=
  ⟨h.f.of_block (K.block _ h.f.lt (hS _ (by omega) (by omega))), h.e.of_block (K.block _ (World.rowIs.lt h.e) (hS _ (by omega) (by omega))), h.q.of_block (K.block _ (World.rowIs.lt h.q) (hS _ (by omega) (by omega)))⟩

theorem rowIs_other {w : World} {b c n : Nat} {ty : TypeId} {f : Nat → Value} (h : w.rowIs b ty n f) (hne : b ≠ c) (o : Nat) (u : Value) : (w.setCell ⟨c, o, none⟩ u).rowIs b ty n f :=
  h.of_block ((Kept1.set (Kept.refl _ w) o u).block b h.lt hne)
theorem GBoxes.put {w : World} {b : Nat} {v0 v1 v2 v3 v4 v5 : Value} (h : GBoxes w b v0 v1 v2 v3 v4 v5) (u0 u1 u2 u3 u4 u5 : Value) : GBoxes (((put4 w b u0 u1 u2 u3).setCell ⟨b + 1, 0, none⟩ u4).setCell ⟨b + 2, 0, none⟩ u5) b u0 u1 u2 u3 u4 u5 :=
  ⟨rowIs_other (rowIs_other (put_form h.f u0 u1 u2 u3) (by omega) _ _) (by omega) _ _,
   Box.other (Box.set (Box.other (Box.other (Box.other (Box.other h.e (by omega) _ _) (by omega) _ _) (by omega) _ _) (by omega) _ _) u4) (by omega) _ _,
   Box.set (Box.other (Box.other (Box.other (Box.other (Box.other h.q (by omega) _ _) (by omega) _ _) (by omega) _ _) (by omega) _ _) (by omega) _ _) u5⟩
theorem GBoxes.putF {w : World} {b : Nat} {v0 v1 v2 v3 v4 v5 : Value} (h : GBoxes w b v0 v1 v2 v3 v4 v5) (u0 u1 u2 u3 : Value) : GBoxes (put4 w b u0 u1 u2 u3) b u0 u1 u2 u3 v4 v5 :=
  ⟨put_form h.f u0 u1 u2 u3, Box.other (Box.other (Box.other (Box.other h.e (by omega) _ _) (by omega) _ _) (by omega) _ _) (by omega) _ _, Box.other (Box.other (Box.other (Box.other h.q (by omega) _ _) (by omega) _ _) (by omega) _ _) (by omega) _ _⟩
theorem GBoxes.putK (w : World) (b : Nat) (u0 u1 u2 u3 u4 u5 : Value) : Kept (fun k => b ≤ k ∧ k ≤ b + 2) w (((put4 w b u0 u1 u2 u3).setCell ⟨b + 1, 0, none⟩ u4).setCell ⟨b + 2, 0, none⟩ u5) := by
  have h0 : b ≤ b ∧ b ≤ b + 2 := by omega
  have h1 : b ≤ b + 1 ∧ b + 1 ≤ b + 2 := by omega
  have h2 : b ≤ b + 2 ∧ b + 2 ≤ b + 2 := by omega
  exact (((((Kept.refl _ w).setCell (p := ⟨b, 0, none⟩) h0 u0).setCell (p := ⟨b, 1, none⟩) h0 u1).setCell (p := ⟨b, 2, none⟩) h0 u2).setCell (p := ⟨b, 3, none⟩) h0 u3 |>.setCell (p := ⟨b + 1, 0, none⟩) h1 u4).setCell (p := ⟨b + 2, 0, none⟩) h2 u5

set_option maxHeartbeats 2000000 in
theorem gcatch_bad (w : World) (b : Nat) (v0 v1 v2 v3 v4 v5 : Value) (B : GBoxes w b v0 v1 v2 v3 v4 v5) (c q : Int) :
    CallsD Tryz.prog 66 #[.pointer (some ⟨b, 0, none⟩), .pointer (some ⟨b + 1, 0, none⟩), .pointer (some ⟨b + 2, 0, none⟩)] (.panicking [{ v := grefusalV c q, recovered := false }]) w fun e u' w' =>
      e = .returned (.tuple #[]) ∧ u' = .panicking [{ v := grefusalV c q, recovered := true }] ∧ GBoxes w' b (.int .i64 0) (.int .i64 0) (.int .i64 0) (.slice none 0 0) (.int .i64 c) (.int .i64 q) ∧ Kept (fun k => b ≤ k ∧ k ≤ b + 2) w w' := by
  refine callsD_of_wpS Tryz.func66 rfl fun c₀ cs hu => ?_
  unfold grefusalV at hu ⊢
  apply wpS_seq
  apply wpS_region
  simp [wpOpsS, go_sem, recoverD, hu, Tryz.ntmps66, Exit.thenS, gassert_ref, rep13]
  refine wpS_of_wp ?_
  have hx : (w.alloc (Obj.cells #[.int .i64 c, .int .i64 q] 155)).rowIs w.heap.size 155 2 (fun j => (#[Value.int .i64 c, Value.int .i64 q])[j]?.getD undef) := made_row w #[.int .i64 c, .int .i64 q] 155
  generalize hw1 : w.alloc (Obj.cells #[.int .i64 c, .int .i64 q] 155) = w1 at hx ⊢
  have K1 : Kept0 w w1 := hw1 ▸ Kept.alloc (Kept.refl _ w) _
  clear hw1
  have B1 := B.kept K1 (fun _ _ _ e => e)
  have hxb : b + 2 < w.heap.size := World.rowIs.lt B.q
  generalize w.heap.size = x at *
  have x0 : w1.cell? ⟨x, 0, none⟩ = some (.int .i64 c) := World.rowIs.cell hx (i := 0) (by omega)
  have x1 : w1.cell? ⟨x, 1, none⟩ = some (.int .i64 q) := World.rowIs.cell hx (i := 1) (by omega)
  obtain ⟨z0, z1, z2, z3⟩ := form_cells B1.f
  have y0 := World.rowIs.frozen B1.f 0
  have y1 := World.rowIs.frozen B1.f 1
  have y2 := World.rowIs.frozen B1.f 2
  have y3 := World.rowIs.frozen B1.f 3
  have e4 := B1.e.cell
  have e5 := B1.q.cell
  have f4 := B1.e.frozen
  have f5 := B1.q.frozen
  go_wp2_with fail
  go_region
  all_goals
    refine ⟨rfl, _, rfl, .tuple #[], by simp [results, Tryz.results66], rfl, rfl, (B1.put _ _ _ _ _ _).kept (Kept.drew (Kept.refl (fun _ => False) _)) (fun _ _ _ e => e), ?_⟩
    exact ((Kept.mono K1 (fun _ _ e => e.elim)).trans (GBoxes.putK w1 b _ _ _ _ _ _)).drew

theorem Bk.noTy {w : World} {base p : Nat} {ev : Value} {nb fb : Nat} {l : List Tm} (h : Bk w base p ev nb fb l) {k : Nat} (hk : BFoot p ev nb fb k) (e : TypeId) (h1 : 84 ≠ e) (h2 : 152 ≠ e) (c : Array Value) (fz : Nat × Nat) : w.heap[k]? ≠ some (Obj.cells c e fz) := by
  rcases hk with rfl | rfl | rfl | he
  · exact rowIs_ne h.bank h1 c fz
  · obtain ⟨D, h1, _⟩ := h.nums
    exact mapIs_ne h1 c _ fz
  · obtain ⟨D, h1, _⟩ := h.fsts
    exact mapIs_ne h1 c _ fz
  · exact ownsRow_ne h.rows he h2 c fz
theorem Bk.kept_new {w w' : World} {base p : Nat} {ev : Value} {nb fb : Nat} {l : List Tm} (h : Bk w base p ev nb fb l) {b : Nat} {v0 v1 v2 v3 v4 v5 : Value} (B : GBoxes w b v0 v1 v2 v3 v4 v5) (K : Kept (fun k => b ≤ k ∧ k ≤ b + 2) w w') : Bk w' base p ev nb fb l := by
  have hn : ∀ k, BFoot p ev nb fb k → ¬ (b ≤ k ∧ k ≤ b + 2) := fun k hk hb => by
    obtain ⟨c0, h0, _⟩ := B.f
    obtain ⟨c1, h1, _⟩ := B.e
    obtain ⟨c2, h2, _⟩ := B.q
    rcases (by omega : k = b ∨ k = b + 1 ∨ k = b + 2) with rfl | rfl | rfl
    · exact h.noTy hk 36 (by decide) (by decide) _ _ h0
    · exact h.noTy hk 37 (by decide) (by decide) _ _ h1
    · exact h.noTy hk 3 (by decide) (by decide) _ _ h2
  have L := h.low
  exact h.blocks (K.block p L.p (hn _ (Or.inl rfl))) (K.block nb L.n (hn _ (Or.inr (Or.inl rfl)))) (K.block fb L.f (hn _ (Or.inr (Or.inr (Or.inl rfl))))) (fun k e => K.block k (L.e k e) (hn _ (Or.inr (Or.inr (Or.inr e)))))
theorem Grew.kept_new {X S : Nat → Prop} {p nb fb : Nat} {a w w' : World} {ea eb : Value} (G : Grew X p nb fb a ea w eb) (K : Kept S w w') (hS : ∀ k, S k → a.heap.size ≤ k) : Grew X p nb fb a ea w' eb :=
  ⟨⟨K.os.trans G.kept.os, K.tape.trans G.kept.tape, K.output.trans G.kept.output, Nat.le_trans G.kept.size K.size, fun k hk hs => (K.block k (Nat.lt_of_lt_of_le hk G.kept.size) (fun e => by have := hS k e; omega)).trans (G.kept.block k hk hs)⟩, G.row⟩

theorem Bk.keptForm {w w' : World} {base p : Nat} {ev : Value} {nb fb : Nat} {l : List Tm} (h : Bk w base p ev nb fb l) {b n : Nat} {f : Nat → Value} (hb : w.rowIs b 36 n f) (K : Kept1 b w w') : Bk w' base p ev nb fb l := by
  obtain ⟨c, hc, _⟩ := hb
  exact h.kept1 K (fun e => h.noForm (Or.inl rfl) c (0, 0) (e ▸ hc)) (fun e => h.noForm (Or.inr (Or.inl rfl)) c (0, 0) (e ▸ hc)) (fun e => h.noForm (Or.inr (Or.inr (Or.inl rfl))) c (0, 0) (e ▸ hc)) (fun e => h.noForm (Or.inr (Or.inr (Or.inr e))) c (0, 0) hc)

/-- What Parse answers: the formula, the error and its place, the terms. -/
def gWhole (s : ByteArray) (l : List Tm) : Fo × Nat × Nat × List Tm := match gp s (6 * s.size + 5) 0 0 (bl s 0) l with
  | .bad c q l' => (.eq 0 0, c, q, l')
  | .ok f k l' => if k < s.size then (.eq 0 0, 2, k, l') else (f, 0, 0, l')
def gParse (s : ByteArray) (l : List Tm) : Fo × Nat × Nat × List Tm := if 400 < s.size then (.eq 0 0, 1, 0, l) else gWhole s l

theorem gboxes_made (w : World) : GBoxes (((w.alloc (.cells #[.int .i64 0, .int .i64 0, .int .i64 0, .slice none 0 0] 36)).alloc (.cells #[.int .i64 0] 37)).alloc (.cells #[.int .i64 0] 3)) w.heap.size (.int .i64 0) (.int .i64 0) (.int .i64 0) (.slice none 0 0) (.int .i64 0) (.int .i64 0) := by
  have one : ∀ (w : World) (v : Value) (ty : TypeId), Box (w.alloc (.cells #[v] ty)) w.heap.size ty v := fun w v ty => World.rowIs.congr (made_row w #[v] ty) (fun j hj => by
    have : j = 0 := by simp at hj; omega
    subst this; rfl)
  have keep : ∀ {w : World} {b n : Nat} {f : Nat → Value} {ty : TypeId} (o : Obj), w.rowIs b ty n f → (w.alloc o).rowIs b ty n f := fun {w b n f ty} o h => h.of_block ((Kept.alloc (Kept.refl (fun _ => False) w) o).block b (World.rowIs.lt h) (fun e => e))
  have s1 : (w.alloc (.cells #[.int .i64 0, .int .i64 0, .int .i64 0, .slice none 0 0] 36)).heap.size = w.heap.size + 1 := by simp
  have s2 : ((w.alloc (.cells #[.int .i64 0, .int .i64 0, .int .i64 0, .slice none 0 0] 36)).alloc (.cells #[.int .i64 0] 37)).heap.size = w.heap.size + 2 := by simp
  exact ⟨keep _ (keep _ (made_form w _ _ _ _)), keep _ (s1 ▸ one _ (.int .i64 0) 37), s2 ▸ one _ (.int .i64 0) 3⟩

set_option maxRecDepth 100000 in
set_option maxHeartbeats 2000000 in
theorem gwhole_in (w : World) (base r p : Nat) (ev : Value) (nb fb : Nat) (s : ByteArray) (l : List Tm) (h : PB w base r p ev nb fb s 0 0 l) :
    Calls Tryz.prog 37 #[.pointer (some ⟨r, 0, none⟩)] w fun e w' => ∃ v, e = .returned (.tuple #[v, .int .i64 ((gWhole s l).2.1 : Int), .int .i64 ((gWhole s l).2.2.1 : Int)]) ∧ FVal w.heap.size w' v (gWhole s l).1 ∧
      ∃ ev', Bk w' base p ev' nb fb (gWhole s l).2.2.2 ∧ Grew (fun k => k = r) p nb fb w ev w' ev' ∧ (gWhole s l).2.2.2.length ≤ 150 := by
  have hmf : ∀ (fn : Fn) (first cap : Array Value) (w : World), (Instr.makeFunc fn first cap).run Tryz.prog w = .ok (.func fn first cap) w := fun _ _ _ _ => rfl
  have hsm := h.lp.small
  have BM := gboxes_made w
  have K3 : Kept0 w (((w.alloc (.cells #[.int .i64 0, .int .i64 0, .int .i64 0, .slice none 0 0] 36)).alloc (.cells #[.int .i64 0] 37)).alloc (.cells #[.int .i64 0] 3)) := ((Kept.refl _ w).alloc _ |>.alloc _).alloc _
  have S3 : (((w.alloc (.cells #[.int .i64 0, .int .i64 0, .int .i64 0, .slice none 0 0] 36)).alloc (.cells #[.int .i64 0] 37)).alloc (.cells #[.int .i64 0] 3)).heap.size = w.heap.size + 3 := by simp
  have P3 := h.kept0 K3
  have L := h.bk.low
  have hrb := h.lp.row.lt
  go_enter_defers Tryz.func37, Tryz.ntmps37
  have hbl := bl_le (s := s) (i := 0) (by omega)
  have CB : Hid (∀ W ev', Grew (fun k => k = r) p nb fb (((w.alloc (.cells #[.int .i64 0, .int .i64 0, .int .i64 0, .slice none 0 0] 36)).alloc (.cells #[.int .i64 0] 37)).alloc (.cells #[.int .i64 0] 3)) ev W ev' → GBoxes W w.heap.size (.int .i64 0) (.int .i64 0) (.int .i64 0) (.slice none 0 0) (.int .i64 0) (.int .i64 0)) := fun W ev' G => BM.kept G.kept (fun k h1 h2 hk => by
    rcases hk with e | e | e | e | e
    · omega
    · have := L.p; omega
    · have := L.n; omega
    · have := L.f; omega
    · have := L.e k e; omega)
  have BL := gblanks_in _ r _ s 0 0 P3.1.lp
  have C4 : Hid (∀ W, PB W base r p ev nb fb s (bl s 0) 0 l → _) := fun W P => (at_alls (6 * s.size + 5)).1 W base r p ev nb fb s (bl s 0) 0 l P (by omega) (by omega)
  have HW : Hid (gWhole s l = _) := gWhole.eq_1 s l
  go_wp2_with fail
  rw [show w.heap.size + 1 + 1 = w.heap.size + 2 from rfl]
  generalize ((w.alloc (.cells #[.int .i64 0, .int .i64 0, .int .i64 0, .slice none 0 0] 36)).alloc (.cells #[.int .i64 0] 37)).alloc (.cells #[.int .i64 0] 3) = w3 at BM K3 S3 P3 CB BL ⊢
  refine BL.mono ?_
  rintro e w4 ⟨rfl, L4, K4⟩
  have P4 := P3.1.read K4 L4
  have F4 := C4.out w4 P4.1
  clear C4 BL
  cases hg : gp s (6 * s.size + 5) 0 0 (bl s 0) l with
  | bad c q l' =>
    rw [hg] at F4 HW
    go_wp2_with (first | (go_at_call 68; refine F4.mono ?_; rintro e w5 ⟨rfl, ev5, k5, d5, P5, G5⟩))
    have B5 := CB.out w5 ev5 (P4.2.trans G5)
    refine leaves_cons (f := 66) (args := #[.pointer (some ⟨w.heap.size, 0, none⟩), .pointer (some ⟨w.heap.size + 1, 0, none⟩), .pointer (some ⟨w.heap.size + 2, 0, none⟩)]) (by simp) (by simp [go_sem]) ?_
    refine (gcatch_bad w5 w.heap.size _ _ _ _ _ _ B5 c q).mono ?_
    rintro e u' w9 ⟨rfl, rfl, B9, K9⟩
    obtain ⟨z0, z1, z2, z3⟩ := form_cells B9.f
    have z4 := B9.e.cell
    have z5 := B9.q.cell
    refine ⟨.tuple #[.agg #[.int .i64 0, .int .i64 0, .int .i64 0, .slice none 0 0], .int .i64 (c : Int), .int .i64 (q : Int)], ?_, ?_⟩
    · simp [results, Tryz.results37, go_sem, z0, z1, z2, z3, z4, z5]
    · rw [HW.out]
      exact ⟨_, rfl, FVal.eq _ _ _ _, ev5, P5.bk.kept_new B5 K9, Grew.kept_new ((P3.2.trans P4.2).trans G5) K9 (fun k hk => hk.1), P5.few⟩
  | ok f0 k l' =>
    rw [hg] at F4 HW
    go_wp2_with (first | (go_at_call 68; refine F4.mono ?_; rintro e w5 ⟨v5, rfl, V5, ev5, P5, G5⟩; obtain ⟨op5, x5, y5, a5, n5, cap5, rfl⟩ := V5.form; have B5 := CB.out w5 ev5 (P4.2.trans G5); obtain ⟨z0, z1, z2, z3⟩ := form_cells B5.f; have y0 := World.rowIs.frozen B5.f 0; have y1 := World.rowIs.frozen B5.f 1; have y2 := World.rowIs.frozen B5.f 2; have y3 := World.rowIs.frozen B5.f 3))
    have P6 := P5.put4 B5.f (.int .i64 op5) (.int .i64 x5) (.int .i64 y5) (.slice a5 n5 cap5)
    have B6 := B5.putF (.int .i64 op5) (.int .i64 x5) (.int .i64 y5) (.slice a5 n5 cap5)
    have hb3 : w.heap.size + 3 ≤ w4.heap.size := by have := P4.2.kept.size; omega
    have V6 : FVal (w.heap.size + 3) _ _ _ := (V5.mono hb3).keep (put_keep (w := w5) (by omega : w.heap.size < w.heap.size + 3) (.int .i64 op5) (.int .i64 x5) (.int .i64 y5) (.slice a5 n5 cap5))
    have G6 := ((P3.2.trans P4.2).trans G5).put4 (Nat.le_refl w.heap.size) (.int .i64 op5) (.int .i64 x5) (.int .i64 y5) (.slice a5 n5 cap5)
    unfold put4 at P6 B6 V6 G6
    clear z0 z1 z2 z3 y0 y1 y2 y3 F4 CB BM
    generalize ((((w5).setCell ⟨w.heap.size, 0, none⟩ (.int .i64 op5)).setCell ⟨w.heap.size, 1, none⟩ (.int .i64 x5)).setCell ⟨w.heap.size, 2, none⟩ (.int .i64 y5)).setCell ⟨w.heap.size, 3, none⟩ (.slice a5 n5 cap5) = w6 at P6 B6 V6 G6 ⊢
    have c1 := P6.lp.c1
    have c2 := P6.lp.c2
    have hk := P6.lp.le
    by_cases hks : k < s.size
    · have d1 : decide ((k : Int) < s.size) = true := decide_eq_true (by omega)
      rw [if_pos hks] at HW
      go_quiet (fail)
      have c2' : (w6.drewN nq).cell? ⟨r, 2, none⟩ = some (.int .i64 (k : Int)) := c2
      go_wp2_with (go_at_call 69; refine (grefuse_any _ _ _).mono ?_; rintro e w7 ⟨rfl, rfl⟩)
      have B7 : GBoxes (w6.drewN nq) w.heap.size _ _ _ _ _ _ := B6.kept (Kept.drewN (Kept.refl (fun _ => False) w6) nq) (fun _ _ _ e => e)
      refine leaves_cons (f := 66) (args := #[.pointer (some ⟨w.heap.size, 0, none⟩), .pointer (some ⟨w.heap.size + 1, 0, none⟩), .pointer (some ⟨w.heap.size + 2, 0, none⟩)]) (by simp) (by simp [go_sem]) ?_
      refine (gcatch_bad (w6.drewN nq) w.heap.size _ _ _ _ _ _ B7 2 k).mono ?_
      rintro e u' w9 ⟨rfl, rfl, B9, K9⟩
      obtain ⟨z0, z1, z2, z3⟩ := form_cells B9.f
      have z4 := B9.e.cell
      have z5 := B9.q.cell
      refine ⟨.tuple #[.agg #[.int .i64 0, .int .i64 0, .int .i64 0, .slice none 0 0], .int .i64 2, .int .i64 (k : Int)], ?_, ?_⟩
      · simp [results, Tryz.results37, go_sem, z0, z1, z2, z3, z4, z5]
      · rw [HW.out]
        exact ⟨_, rfl, FVal.eq _ _ _ _, ev5, (P6.drewN nq).bk.kept_new B7 K9, Grew.kept_new (G6.drewN nq) K9 (fun k hk => hk.1), P5.few⟩
    · have d1 : decide ((k : Int) < s.size) = false := decide_eq_false (by omega)
      rw [if_neg hks] at HW
      go_quiet (fail)
      have B7 : GBoxes (w6.drewN nq) w.heap.size _ _ _ _ _ _ := B6.kept (Kept.drewN (Kept.refl (fun _ => False) w6) nq) (fun _ _ _ e => e)
      have P7 := P6.drewN nq
      have G7 := G6.drewN nq
      have V7 := V6.keep (show FKeep (w.heap.size + 3) w6 (w6.drewN nq) from fun _ _ _ _ hh => hh)
      clear B6 P6 G6 V6 c1 c2
      generalize w6.drewN nq = w7 at *
      obtain ⟨z0, z1, z2, z3⟩ := form_cells B7.f
      have g0 := World.rowIs.frozen B7.f 0
      have g1 := World.rowIs.frozen B7.f 1
      have g2 := World.rowIs.frozen B7.f 2
      have g3 := World.rowIs.frozen B7.f 3
      have z4 := B7.e.cell
      have z5 := B7.q.cell
      have g4 := B7.e.frozen
      have g5 := B7.q.frozen
      go_wp2_with fail
      have B8 := B7.put (.int .i64 op5) (.int .i64 x5) (.int .i64 y5) (.slice a5 n5 cap5) (.int .i64 0) (.int .i64 0)
      have K8 := GBoxes.putK w7 w.heap.size (.int .i64 op5) (.int .i64 x5) (.int .i64 y5) (.slice a5 n5 cap5) (.int .i64 0) (.int .i64 0)
      unfold put4 at B8 K8
      clear z0 z1 z2 z3 z4 z5 g0 g1 g2 g3 g4 g5
      generalize ((((((w7).setCell ⟨w.heap.size, 0, none⟩ (.int .i64 op5)).setCell ⟨w.heap.size, 1, none⟩ (.int .i64 x5)).setCell ⟨w.heap.size, 2, none⟩ (.int .i64 y5)).setCell ⟨w.heap.size, 3, none⟩ (.slice a5 n5 cap5)).setCell ⟨w.heap.size + 1, 0, none⟩ (.int .i64 0)).setCell ⟨w.heap.size + 2, 0, none⟩ (.int .i64 0) = w8 at B8 K8 ⊢
      have V8 : FVal (w.heap.size + 3) w8 _ _ := V7.keep (fun k c fz hk hh => (K8.block k (Array.getElem?_eq_some_iff.1 hh).1 (fun e => by have h1 : w.heap.size + 3 ≤ k := hk; omega)).trans hh)
      have E8 := P7.bk.kept_new B7 K8
      have G8 := Grew.kept_new G7 K8 (fun k hk => hk.1)
      refine leaves_cons (f := 66) (args := #[.pointer (some ⟨w.heap.size, 0, none⟩), .pointer (some ⟨w.heap.size + 1, 0, none⟩), .pointer (some ⟨w.heap.size + 2, 0, none⟩)]) (by simp) (by simp [go_sem]) ?_
      refine (gcatch_idle _ _ _ w8).mono ?_
      rintro e u' w9 ⟨rfl, rfl, rfl⟩
      have K9 : Kept0 w8 (w8.alloc (.cells #[.int .i64 0, .int .i64 0] 155)) := Kept.alloc (Kept.refl _ w8) _
      have B9 := B8.kept K9 (fun _ _ _ e => e)
      have V9 := V8.keep (FKeep.kept0 K9 _)
      have E9 := E8.kept0 K9
      have G9 := Grew.kept_new G8 K9 (fun _ e => e.elim)
      generalize w8.alloc (.cells #[.int .i64 0, .int .i64 0] 155) = w9 at B9 V9 E9 G9 ⊢
      obtain ⟨z0, z1, z2, z3⟩ := form_cells B9.f
      have z4 := B9.e.cell
      have z5 := B9.q.cell
      refine ⟨.tuple #[.agg #[.int .i64 op5, .int .i64 x5, .int .i64 y5, .slice a5 n5 cap5], .int .i64 0, .int .i64 0], ?_, ?_⟩
      · simp [results, Tryz.results37, go_sem, z0, z1, z2, z3, z4, z5]
      · rw [HW.out]
        exact ⟨_, rfl, V9.mono (by omega), ev5, E9, G9, P5.few⟩

theorem made_pb (w : World) (base p : Nat) (ev : Value) (nb fb : Nat) (l : List Tm) (h : Bk w base p ev nb fb l) (s : ByteArray) (hs : s.size ≤ 400) (hbase : base ≤ w.heap.size) (hf : l.length ≤ 150) :
    PB (w.alloc (.cells #[.pointer (some ⟨p, 0, none⟩), .string s, .int .i64 0, .int .u64 0] 107)) base w.heap.size p ev nb fb s 0 0 l := by
  have K : Kept0 w (w.alloc (.cells #[.pointer (some ⟨p, 0, none⟩), .string s, .int .i64 0, .int .u64 0] 107)) := Kept.alloc (Kept.refl _ w) _
  have L := h.low
  have h1 := L.p
  have h2 := L.n
  have h3 := L.f
  exact ⟨made_parser w _ s 0 0 (Nat.zero_le _) hs, h.kept0 K, by omega, by omega, by omega, fun e => by have := L.e _ e; omega, Nat.le_trans hbase K.size, hf⟩

set_option maxRecDepth 100000 in
set_option maxHeartbeats 1000000 in
theorem gParse_in (w : World) (base p : Nat) (ev : Value) (nb fb : Nat) (l : List Tm) (h : Bk w base p ev nb fb l) (hl : l.length ≤ 150) (hbase : base ≤ w.heap.size) (s : ByteArray) :
    Calls Tryz.prog 17 #[.pointer (some ⟨p, 0, none⟩), .string s] w fun e w' => ∃ v, e = .returned (.tuple #[v, .int .i64 ((gParse s l).2.1 : Int), .int .i64 ((gParse s l).2.2.1 : Int)]) ∧ FVal w.heap.size w' v (gParse s l).1 ∧
      ∃ ev', Bk w' base p ev' nb fb (gParse s l).2.2.2 ∧ Kept (BFoot p ev nb fb) w w' ∧ (ev'.ownBlock = ev.ownBlock ∨ ∀ k, ev'.ownBlock = some k → w.heap.size ≤ k) ∧ (gParse s l).2.2.2.length ≤ 150 := by
  by_cases hs : 400 < s.size
  · have hp : gParse s l = (.eq 0 0, 1, 0, l) := by simp [gParse, hs]
    have d : (400 : Int) < (s.size : Int) := by omega
    go_enter Tryz.func17, Tryz.ntmps17
    go_wp2_with fail
    have F1 := made_form w (.int .i64 0) (.int .i64 0) (.int .i64 0) (.slice none 0 0)
    have K1 : Kept0 w (w.alloc (.cells #[.int .i64 0, .int .i64 0, .int .i64 0, .slice none 0 0] 36)) := Kept.alloc (Kept.refl _ w) _
    generalize w.alloc (.cells #[.int .i64 0, .int .i64 0, .int .i64 0, .slice none 0 0] 36) = w1 at F1 K1 ⊢
    obtain ⟨z0, z1, z2, z3⟩ := form_cells F1
    refine ⟨rfl, .tuple #[.agg #[.int .i64 0, .int .i64 0, .int .i64 0, .slice none 0 0], .int .i64 1, .int .i64 0], by simp [results, Tryz.results17, go_sem, z0, z1, z2, z3], ?_⟩
    rw [hp]
    exact ⟨_, rfl, FVal.eq _ _ _ _, ev, h.kept0 K1, Kept.mono K1 (fun _ _ e => e.elim), Or.inl rfl, hl⟩
  · have hp : gParse s l = gWhole s l := by simp [gParse, hs]
    have d : ¬ (400 : Int) < (s.size : Int) := by omega
    have K1 : Kept0 w (w.alloc (.cells #[.int .i64 0, .int .i64 0, .int .i64 0, .slice none 0 0] 36)) := Kept.alloc (Kept.refl _ w) _
    have hz1 : (w.alloc (.cells #[.int .i64 0, .int .i64 0, .int .i64 0, .slice none 0 0] 36)).heap.size = w.heap.size + 1 := by simp
    have F1 := made_form w (.int .i64 0) (.int .i64 0) (.int .i64 0) (.slice none 0 0)
    have P2 := made_pb (w.alloc (.cells #[.int .i64 0, .int .i64 0, .int .i64 0, .slice none 0 0] 36)) base p ev nb fb l (h.kept0 K1) s (by omega) (by omega) hl
    have F2 := rowIs_keep (FKeep.alloc 0 (w.alloc (.cells #[.int .i64 0, .int .i64 0, .int .i64 0, .slice none 0 0] 36)) (.cells #[.pointer (some ⟨p, 0, none⟩), .string s, .int .i64 0, .int .u64 0] 107)) (Nat.zero_le _) F1
    have K2 : Kept0 w ((w.alloc (.cells #[.int .i64 0, .int .i64 0, .int .i64 0, .slice none 0 0] 36)).alloc (.cells #[.pointer (some ⟨p, 0, none⟩), .string s, .int .i64 0, .int .u64 0] 107)) := K1.alloc _
    have hz2 : ((w.alloc (.cells #[.int .i64 0, .int .i64 0, .int .i64 0, .slice none 0 0] 36)).alloc (.cells #[.pointer (some ⟨p, 0, none⟩), .string s, .int .i64 0, .int .u64 0] 107)).heap.size = w.heap.size + 2 := by simp
    rw [hz1] at P2
    go_enter Tryz.func17, Tryz.ntmps17
    have WH := gwhole_in _ base (w.heap.size + 1) p ev nb fb s l P2
    go_wp2_with fail
    generalize (w.alloc (.cells #[.int .i64 0, .int .i64 0, .int .i64 0, .slice none 0 0] 36)).alloc (.cells #[.pointer (some ⟨p, 0, none⟩), .string s, .int .i64 0, .int .u64 0] 107) = w2 at P2 F2 K2 WH hz2 ⊢
    refine WH.mono ?_
    rintro e w5 ⟨v, rfl, V5, ev5, B5, G5, hfew⟩
    obtain ⟨op5, x5, y5, a5, n5, cap5, rfl⟩ := V5.form
    have F5 := rowIs_keep (P2.fkeep G5 0) (Nat.zero_le _) F2
    obtain ⟨z0, z1, z2, z3⟩ := form_cells F5
    have g0 := World.rowIs.frozen F5 0
    have g1 := World.rowIs.frozen F5 1
    have g2 := World.rowIs.frozen F5 2
    have g3 := World.rowIs.frozen F5 3
    clear WH
    go_wp2_with fail
    have F6 := put_form F5 (.int .i64 op5) (.int .i64 x5) (.int .i64 y5) (.slice a5 n5 cap5)
    have K6 : Kept1 w.heap.size w5 (put4 w5 w.heap.size (.int .i64 op5) (.int .i64 x5) (.int .i64 y5) (.slice a5 n5 cap5)) := Kept1.set (Kept1.set (Kept1.set (Kept1.set (Kept.refl _ w5) 0 _) 1 _) 2 _) 3 _
    have V6 := (V5.mono (Nat.le_of_eq hz2.symm)).keep (put_keep (w := w5) (by omega : w.heap.size < w.heap.size + 2) (.int .i64 op5) (.int .i64 x5) (.int .i64 y5) (.slice a5 n5 cap5))
    have B6 := B5.keptForm F5 K6
    unfold put4 at F6 K6 V6 B6
    clear z0 z1 z2 z3 g0 g1 g2 g3
    generalize ((((w5).setCell ⟨w.heap.size, 0, none⟩ (.int .i64 op5)).setCell ⟨w.heap.size, 1, none⟩ (.int .i64 x5)).setCell ⟨w.heap.size, 2, none⟩ (.int .i64 y5)).setCell ⟨w.heap.size, 3, none⟩ (.slice a5 n5 cap5) = w6 at F6 K6 V6 B6 ⊢
    obtain ⟨z0, z1, z2, z3⟩ := form_cells F6
    have G6 := Grew.kept_new (Grew.trans (⟨Kept.mono K2 (fun _ _ e => e.elim), Or.inl rfl⟩ : Grew (fun k => k = w.heap.size + 1) p nb fb w ev w2 ev) G5) K6 (fun k hk => Nat.le_of_eq hk.symm)
    refine ⟨rfl, .tuple #[.agg #[.int .i64 op5, .int .i64 x5, .int .i64 y5, .slice a5 n5 cap5], .int .i64 ((gWhole s l).2.1 : Int), .int .i64 ((gWhole s l).2.2.1 : Int)], by simp [results, Tryz.results17, go_sem, z0, z1, z2, z3], ?_⟩
    rw [hp]
    exact ⟨_, rfl, V6.mono (by omega), ev5, B6, Kept.mono G6.kept (fun k hk e => e.elim (fun e => by omega) id), G6.row, hfew⟩

end Go.Proofs.YtlehlgipbhfioaaGreat

namespace Go.Proofs.YtlehlgipbhfioaaGreat
open Go.RowKit Go.Maps

theorem evE_or (n : Nat) (e : Nat → Nat → Bool) (f g : Fo) : evE n e (Fo.two 3 f g) = (evE n e f || evE n e g) := by
  rw [Fo.two, evE, evM]
  simp
def l7 : List Tm := [⟨⟨#[97]⟩, []⟩, ⟨⟨#[102]⟩, [0]⟩, ⟨⟨#[98]⟩, []⟩, ⟨⟨#[99]⟩, []⟩, ⟨⟨#[100]⟩, []⟩, ⟨⟨#[102]⟩, [3]⟩]
def f7a : Fo := foE (1, 2)
def f7b : Fo := Fo.two 3 (foE (0, 3)) (foE (0, 4))
def f7c : Fo := Fo.neg (foE (5, 2))
def f7d : Fo := Fo.neg (foE (0, 4))
def fm7 : List Fm := [⟨[(1, 2)], [[1]], fun e => e 1 2⟩, ⟨[(0, 3), (0, 4)], [[-4, -2], [-4, -3], [4, 2, 3], [-4]], fun e => e 0 3 || e 0 4⟩, ⟨[(2, 5)], [[-5]], fun e => !e 5 2⟩, ⟨[(0, 4)], [[-3]], fun e => !e 0 4⟩]
def p7 : Pb := ⟨5, [((1, 2), 1), ((0, 3), 2), ((0, 4), 3), ((2, 5), 5)], [], []⟩
theorem inN7 {a b : Nat} (h : a < 6 := by decide) (k : b < 6 := by decide) : InN 6 (a, b) := ⟨h, k⟩
theorem add7a : pb0.addF f7a = ⟨1, [((1, 2), 1)], [], []⟩ ∧ fmOf 6 pb0 f7a = ⟨[(1, 2)], [[1]], fun e => e 1 2⟩ := by
  refine ⟨by rw [f7a, addF_eq]; rfl, ?_⟩
  rw [f7a, fmOf_eq]
  congr 1
  funext e
  exact evE_eq 6 e _ inN7
theorem ats7b : ats (eqF f7b) = [(0, 3), (0, 4)] := by
  simp [f7b, Fo.two, foE, Fo.eq, eqF, ats]
theorem tse7b : tseN f7b = (-3, (3, [[-3, -1], [-3, -2], [3, 1, 2]])) := by
  unfold tseN
  rw [ats7b]
  have n1 : numP [(0, 3), (0, 4)] (0, 3) = 1 := by decide
  have n2 : numP [(0, 3), (0, 4)] (0, 4) = 2 := by decide
  simp [f7b, Fo.two, foE, Fo.eq, Cn.tse, Cn.both, n1, n2]
theorem atsN7b : atsN f7b = [(0, 3), (0, 4)] := by
  unfold atsN
  rw [ats7b]
  rfl
theorem add7b : (⟨1, [((1, 2), 1)], [], []⟩ : Pb).addF f7b = ⟨4, [((1, 2), 1), ((0, 3), 2), ((0, 4), 3)], [], []⟩ ∧ fmOf 6 ⟨1, [((1, 2), 1)], [], []⟩ f7b = ⟨[(0, 3), (0, 4)], [[-4, -2], [-4, -3], [4, 2, 3], [-4]], fun e => e 0 3 || e 0 4⟩ := by
  refine ⟨?_, ?_⟩
  · unfold Pb.addF
    rw [atsN7b, tse7b]
    rfl
  · unfold fmOf nmsN
    rw [atsN7b, tse7b]
    congr 1
    funext e
    rw [f7b, evE_or, evE_eq 6 e _ inN7, evE_eq 6 e _ inN7]
theorem add7c : (⟨4, [((1, 2), 1), ((0, 3), 2), ((0, 4), 3)], [], []⟩ : Pb).addF f7c = p7 ∧ fmOf 6 ⟨4, [((1, 2), 1), ((0, 3), 2), ((0, 4), 3)], [], []⟩ f7c = ⟨[(2, 5)], [[-5]], fun e => !e 5 2⟩ := by
  refine ⟨by rw [f7c, addF_neg]; rfl, ?_⟩
  rw [f7c, fmOf_neg]
  congr 1
  funext e
  rw [evE_neg, evE_eq 6 e _ inN7]
theorem add7d : p7.addF f7d = p7 ∧ fmOf 6 p7 f7d = ⟨[(0, 4)], [[-3]], fun e => !e 0 4⟩ := by
  refine ⟨by rw [f7d, addF_neg]; rfl, ?_⟩
  rw [f7d, fmOf_neg]
  congr 1
  funext e
  rw [evE_neg, evE_eq 6 e _ inN7]
theorem adds7 : Pb.adds 6 [f7a, f7b, f7c] pb0 [] = (p7, fm7.take 3) := by
  simp only [Pb.adds, add7a.1, add7a.2, add7b.1, add7b.2, add7c.1, add7c.2]
  rfl
theorem adds7d : Pb.adds 6 [f7a, f7b, f7c, f7d] pb0 [] = (p7, fm7) := by
  simp only [Pb.adds, add7a.1, add7a.2, add7b.1, add7b.2, add7c.1, add7c.2, add7d.1, add7d.2]
  rfl
def q7 : Pb := ⟨6, [((1, 2), 1), ((0, 3), 2), ((0, 4), 3), ((2, 5), 5), ((1, 5), 6)], [[6, -2], [5, -1, -6]], [((1, 5), [(0, 3), (0, 0), (0, 0), (0, 0)]), ((2, 5), [(1, 2), (1, 5), (0, 0), (0, 0)])]⟩
theorem one7 : mdlN l7 (fm7.take 3) [0, 1, 2] 2 p7 = some (some [(1, 2), (0, 4)], q7) := by kernel_rfl
theorem two7 : mdlN l7 fm7 [0, 1, 2, 3] 2 p7 = some (none, q7) := by kernel_rfl
theorem eno7 : enoN l7 fm7 2 6 q7 [] = some ([0, 1, 2, 3], q7) := by kernel_rfl
theorem cor7 : corN l7 fm7 2 [0, 1, 2, 3] q7 [0, 1, 2, 3] = some ([0, 1, 2, 3], q7) := by kernel_rfl
end Go.Proofs.YtlehlgipbhfioaaGreat

namespace Go.Proofs.YtlehlgipbhfioaaGreat

theorem pa7a : gParse ⟨#[102, 40, 97, 41, 61, 98]⟩ [] = (f7a, 0, 0, l7.take 3) := by kernel_rfl
theorem pa7b : gParse ⟨#[97, 61, 99, 124, 97, 61, 100]⟩ (l7.take 3) = (f7b, 0, 0, l7.take 5) := by kernel_rfl
theorem pa7c : gParse ⟨#[102, 40, 99, 41, 33, 61, 98]⟩ (l7.take 5) = (f7c, 0, 0, l7) := by kernel_rfl
theorem pa7d : gParse ⟨#[97, 33, 61, 100]⟩ l7 = (f7d, 0, 0, l7) := by kernel_rfl
end Go.Proofs.YtlehlgipbhfioaaGreat

namespace Go.Proofs.YtlehlgipbhfioaaGreat
open Go.RowKit Go.Maps

theorem MdlT.mono {l : List Tm} {fs : List Fm} {ns : List Nat} {Post Post' : Option (List Pr) → Pb → Prop} (hp : ∀ r Q, Post r Q → Post' r Q) : ∀ (f : Nat) (P : Pb), MdlT l fs ns Post f P → MdlT l fs ns Post' f P
  | 0, _, h => h
  | f + 1, P, h => by
    rw [MdlT] at h ⊢
    refine ⟨h.1, ?_⟩
    have h2 := h.2
    cases hs : solveN P.count (clsN P fs ns) with
    | none => rw [hs] at h2; exact h2
    | some o =>
      rw [hs] at h2
      cases o with
      | none => exact hp _ _ h2
      | some vs => exact ⟨fun e => hp _ _ (h2.1 e), fun e => ⟨(h2.2 e).1, fun F Q hF hL => MdlT.mono hp f Q ((h2.2 e).2 F Q hF hL)⟩⟩
theorem eno7B : enoB l7 fm7 6 q7 [] = some ([0, 1, 3, 2], q7) := by kernel_rfl
theorem cor7B : corB l7 fm7 [0, 1, 2, 3] q7 [0, 1, 2, 3] = some ([0, 1, 2, 3], q7) := by kernel_rfl
theorem ok7 : okB p7 fm7 (List.range fm7.length) = true := by kernel_rfl
theorem am7 : AmOk 6 fm7 := by
  intro n hn
  have hn : n < 4 := hn
  have : n = 0 ∨ n = 1 ∨ n = 2 ∨ n = 3 := by omega
  rcases this with rfl | rfl | rfl | rfl <;> decide
theorem am7t : AmOk 6 (fm7.take 3) := by
  intro n hn
  have hn : n < 3 := hn
  have : n = 0 ∨ n = 1 ∨ n = 2 := by omega
  rcases this with rfl | rfl | rfl <;> decide
theorem has7 : HasV fm7 p7 := by
  intro n hn
  have hn : n < 4 := hn
  have : n = 0 ∨ n = 1 ∨ n = 2 ∨ n = 3 := by omega
  rcases this with rfl | rfl | rfl | rfl <;> decide
theorem has7t : HasV (fm7.take 3) p7 := by
  intro n hn
  have hn : n < 3 := hn
  have : n = 0 ∨ n = 1 ∨ n = 2 := by omega
  rcases this with rfl | rfl | rfl <;> decide
theorem vrp7 : VrP p7 := by unfold VrP; decide
theorem few7 : p7.lemmas.length ≤ 100000 ∧ p7.vars.length ≤ 2000 ∧ p7.known.length ≤ 100000 := by decide
theorem wf7a : WfR 6 f7a := .eq 1 2 (by decide) (by decide)
theorem wf7b : WfR 6 f7b := .two 3 _ _ (by decide) (.eq 0 3 (by decide) (by decide)) (.eq 0 4 (by decide) (by decide))
theorem wf7c : WfR 6 f7c := .neg _ (.eq 5 2 (by decide) (by decide))
theorem wf7d : WfR 6 f7d := .neg _ (.eq 0 4 (by decide) (by decide))
theorem WfR.rf {N : Nat} (hN : N ≤ 1000) {f : Fo} (h : WfR N f) : RF f ∧ ∀ p ∈ eqF f, (0 ≤ p.1 ∧ p.1 ≤ 1000000) ∧ 0 ≤ p.2 ∧ p.2 ≤ 1000000 := by
  induction h with
  | eq x y hx hy => exact ⟨.mk ⟨by omega, by omega⟩ ⟨by omega, by omega⟩ (fun k hk => (nomatch hk)), fun p hp => by simp [eqF] at hp; subst hp; simp only; omega⟩
  | neg f h ih =>
    refine ⟨.mk ⟨by omega, by omega⟩ ⟨by omega, by omega⟩ (fun k hk => by rw [List.mem_singleton] at hk; subst hk; exact ih.1), fun p hp => ih.2 p ?_⟩
    simpa [eqF] using hp
  | two o f g ho h k ih1 ih2 =>
    refine ⟨.mk ⟨by omega, by omega⟩ ⟨by omega, by omega⟩ (fun k hk => by simp at hk; rcases hk with rfl | rfl; exact ih1.1; exact ih2.1), fun p hp => ?_⟩
    have : p ∈ eqF f ∨ p ∈ eqF g := by
      rcases ho with rfl | rfl | rfl <;> simpa [eqF] using hp
    exact this.elim (ih1.2 p) (ih2.2 p)
theorem each_ok {N : Nat} (hN : N ≤ 1000) {f : Fo} (h : WfR N f) (hs : szF f ≤ 1000) : WfF f ∧ szF f ≤ 1000 ∧ RF f ∧ ∀ p ∈ ats (eqF f), (0 ≤ p.1 ∧ p.1 ≤ 1000000) ∧ 0 ≤ p.2 ∧ p.2 ≤ 1000000 :=
  ⟨h.wf, hs, (h.rf hN).1, fun p hp => (h.rf hN).2 p (mem_ats.1 hp)⟩
theorem sz7 : szF f7a ≤ 1000 ∧ szF f7b ≤ 1000 ∧ szF f7c ≤ 1000 ∧ szF f7d ≤ 1000 := by
  simp [f7a, f7b, f7c, f7d, foE, Fo.eq, Fo.neg, Fo.two, szF]
theorem fos7 : FosOk 6 [f7a, f7b, f7c, f7d] := by
  refine ⟨fun f hf => ?_, by decide, fun i hi => ?_⟩
  · simp only [List.mem_cons, List.not_mem_nil, or_false] at hf
    rcases hf with rfl | rfl | rfl | rfl
    · exact each_ok (by omega) wf7a sz7.1
    · exact each_ok (by omega) wf7b sz7.2.1
    · exact each_ok (by omega) wf7c sz7.2.2.1
    · exact each_ok (by omega) wf7d sz7.2.2.2
  · have : i = 0 ∨ i = 1 ∨ i = 2 ∨ i = 3 ∨ i = 4 := by simp at hi; omega
    rcases this with rfl | rfl | rfl | rfl | rfl
    · exact ⟨by unfold VqP; decide, by decide, by decide, by decide⟩
    · have e : (Pb.adds 6 ([f7a, f7b, f7c, f7d].take 1) pb0 []).1 = ⟨1, [((1, 2), 1)], [], []⟩ := add7a.1
      rw [e]
      exact ⟨by unfold VqP; decide, by decide, by decide, by decide⟩
    · have e : (Pb.adds 6 ([f7a, f7b, f7c, f7d].take 2) pb0 []).1 = ⟨4, [((1, 2), 1), ((0, 3), 2), ((0, 4), 3)], [], []⟩ := by
        show (Pb.adds 6 [f7a, f7b] pb0 []).1 = _
        rw [Pb.adds, Pb.adds, Pb.adds, add7a.1, add7b.1]
      rw [e]
      exact ⟨by unfold VqP; decide, by decide, by decide, by decide⟩
    · have e : (Pb.adds 6 ([f7a, f7b, f7c, f7d].take 3) pb0 []).1 = p7 := by
        show (Pb.adds 6 [f7a, f7b, f7c] pb0 []).1 = _
        rw [adds7]
      rw [e]
      exact ⟨by unfold VqP; decide, by decide, by decide, by decide⟩
    · have e : (Pb.adds 6 ([f7a, f7b, f7c, f7d].take 4) pb0 []).1 = p7 := by
        show (Pb.adds 6 [f7a, f7b, f7c, f7d] pb0 []).1 = _
        rw [adds7d]
      rw [e]
      exact ⟨by unfold VqP; decide, by decide, by decide, by decide⟩
theorem fos7t : FosOk 6 [f7a, f7b, f7c] := by
  refine ⟨fun f hf => fos7.each f ?_, by decide, fun i hi => ?_⟩
  · simp only [List.mem_cons, List.not_mem_nil, or_false] at hf ⊢
    rcases hf with h | h | h
    · exact Or.inl h
    · exact Or.inr (Or.inl h)
    · exact Or.inr (Or.inr (Or.inl h))
  · have h3 : i ≤ 3 := hi
    have := fos7.small i (by simp; omega)
    have e : [f7a, f7b, f7c].take i = [f7a, f7b, f7c, f7d].take i := by
      have : i = 0 ∨ i = 1 ∨ i = 2 ∨ i = 3 := by omega
      rcases this with rfl | rfl | rfl | rfl <;> rfl
    rw [e]
    exact this
theorem mdl7 : MdlT l7 (fm7.take 3) (List.range (fm7.take 3).length) (fun r _ => ∃ t, r = some t) 2 p7 := MdlT.mono (fun r Q h => by cases h; exact ⟨_, rfl⟩) 2 p7 (mdlN_ok 2 p7 _ one7)
end Go.Proofs.YtlehlgipbhfioaaGreat

namespace Go.Proofs.YtlehlgipbhfioaaGreat
open Go.RowKit Go.Maps

theorem infoFormD : (Tryz.prog.info? 36).map (fun i => (i.zero, i.size, i.bytes)) = some (some (.agg #[.int .i64 0, .int .i64 0, .int .i64 0, .slice none 0 0]), 4, 48) := by kernel_rfl

set_option maxRecDepth 100000 in
set_option maxHeartbeats 1000000 in
theorem growF_in (w : World) (n : Nat) (hn : n ≤ 1000000000) :
    Calls Tryz.prog 53 #[.slice none 0 0, .int .i64 (n : Int)] w fun e w' => ∃ v, e = .returned v ∧ w'.ownsRow w.heap.size 36 4 v 0 [] ∧ Below w.heap.size w w' := by
  by_cases h0 : n = 0
  · subst h0
    go_enter Tryz.func53, Tryz.ntmps53
    go_wp2_with fail
    go_ret
    exact ⟨_, rfl, World.ownsRow_nil _ _ _ _, Below.refl _ _⟩
  · have hby : Tryz.t36.bytes = 48 := rfl
    have hk1 : ¬ (281474976710656 < (n : Int) * (Tryz.t36.bytes : Int)) := by rw [hby]; omega
    have hnx : Builtin.nextslicecap n 0 = n := by
      unfold Builtin.nextslicecap
      simp
      omega
    have hk2 : ¬ (281474976710656 < Builtin.nextslicecap n 0 * Tryz.t36.bytes) := by rw [hnx, hby]; omega
    clear hby hnx
    go_enter Tryz.func53, Tryz.ntmps53
    go_wp2_with fail
    obtain ⟨cap, hcap⟩ : ∃ c, (Question.appendCap n 0 36).cut (w.tape w.drawn (Question.appendCap n 0 36)) = c := ⟨_, rfl⟩
    have h1 : n ≤ cap ∧ cap ≤ maxLen := by
      rw [← hcap]
      simp only [Question.cut]
      have := Nat.mod_lt (w.tape w.drawn (Question.appendCap n 0 36)) (show 0 < 2 ^ 63 - n by omega)
      unfold maxLen
      omega
    simp only [hcap]
    clear hcap
    go_ret
    refine ⟨_, rfl, ⟨rfl, Or.inr ⟨w.heap.size, cap, _, rfl, Nat.le_refl _, heap_alloc_new _ _, Nat.zero_le _, h1.2, ?_, rfl⟩⟩, ((Below.refl w.heap.size w).alloc (Nat.le_refl _) _).trans ⟨rfl, rfl, rfl, Nat.le_refl _, fun _ _ => rfl⟩⟩
    rw [Array.size_append, size_zeroCells, size_zeroCells]
    simp
    omega

set_option maxRecDepth 100000 in
set_option maxHeartbeats 1000000 in
theorem catF_in (w : World) (pa : Option Addr) (pc : Nat) (ps : List (Nat × List Value)) (hp : ∀ (i : Nat) (q : Nat × List Value), ps[i]? = some q → ∃ b off u, pa = some ⟨b, off, none⟩ ∧ w.cell? ⟨b, off + i, none⟩ = some u ∧ PartAt 4 w u q.1 q.2) (hN : catN ps ≤ 1000000000) (hl : ps.length ≤ 1000000) :
    Calls Tryz.prog 25 #[.slice pa ps.length pc] w fun e w' => ∃ v, e = .returned v ∧ w'.ownsRow w.heap.size 36 4 v (catN ps) (catV ps) ∧ Below w.heap.size w w' := by
  obtain ⟨n, hn⟩ : ∃ n, ps.length = n := ⟨_, rfl⟩
  have HN : Hid _ := hn
  have HP : Hid _ := hp
  have HC : Hid _ := hN
  rw [hn] at hl ⊢
  clear hp hN hn
  go_enter Tryz.func25, Tryz.ntmps25
  go_wp2_with fail
  go_loopw [3, 11] (fun t3 t11 W => ∃ i : Nat, i ≤ n ∧ t11 = .int .i64 (i : Int) ∧ t3 = .int .i64 (catN (ps.take i) : Int) ∧ W = w) (fun _ t11 _ => n - (intOf t11).toNat)
  case atStart => exact ⟨0, Nat.zero_le _, rfl, by simp [catN], rfl⟩
  case round =>
    obtain ⟨i, hi, rfl, rfl, rfl⟩ := hrel
    have hle := Nat.le_trans (catN_le (ps := ps) i) HC.out
    by_cases hlt : i < n
    · have di : decide ((i : Int) < (n : Int)) = true := decide_eq_true (by omega)
      have hwi : IntKind.i64.wrap ((i : Int) + 1) = (i : Int) + 1 := wrap_nat1 (by omega)
      have hil : i < ps.length := by rw [HN.out]; exact hlt
      have hge := List.getElem?_eq_getElem hil
      obtain ⟨b, off, u, rfl, cu, a, c, rfl, _⟩ := HP.out i _ hge
      have hs := cat_succ hge
      have hle2 := Nat.le_trans (catN_le (ps := ps) (i + 1)) HC.out
      generalize ps[i] = q at *
      obtain ⟨qn, qx⟩ := q
      simp only at cu hs
      have HS : Hid _ := hs.1
      rw [hs.1] at hle2
      clear hge hs
      generalize catN (ps.take i) = t at *
      have hwt : IntKind.i64.wrap ((t : Int) + (qn : Int)) = (t : Int) + (qn : Int) := by rw [IntKind.wrap_i64]; omega
      have dn : decide ((t : Int) + (qn : Int) < 0) = false := decide_eq_false (by omega)
      go_wp2_with fail
      exact ⟨⟨i + 1, hlt, by simp, by rw [HS.out]; simp, by trivial⟩, by simp [intOf]; omega⟩
    · have di : decide ((i : Int) < (n : Int)) = false := decide_eq_false (by omega)
      obtain rfl : i = n := by omega
      have hta : ps.take i = ps := List.take_of_length_le (by rw [HN.out]; exact Nat.le_refl _)
      rw [hta] at hle ⊢
      have GR := growF_in wr (catN ps) hle
      clear hta
      obtain ⟨tot, htot⟩ : ∃ t, t = catN ps := ⟨_, rfl⟩
      rw [← htot] at GR hle ⊢
      have HTO : Hid _ := htot
      clear htot
      go_wp2_with (first | (go_at_call 53; refine GR.mono ?_; rintro e w1 ⟨v1, rfl, R1, B1⟩))
      have HI0 : Hid (w1.ownsRow wr.heap.size 36 4 v1 (catN (ps.take 0)) (catV (ps.take 0)) ∧ Below wr.heap.size wr w1) := ⟨R1, B1⟩
      clear R1 B1 GR
      obtain ⟨w0, hw0⟩ : ∃ x, x = wr := ⟨_, rfl⟩
      rw [← hw0] at HI0 HP
      have HW0 : Hid _ := hw0
      clear hw0
      obtain ⟨i0, hi0, hz0, hz1, hz2⟩ := info_parts infoFormD
      go_loopw [6, 27] (fun t6 t27 W => ∃ j : Nat, j ≤ i ∧ t27 = .int .i64 (j : Int) ∧ Hid (W.ownsRow w0.heap.size 36 4 t6 (catN (ps.take j)) (catV (ps.take j)) ∧ Below w0.heap.size w0 W)) (fun _ t27 _ => i - (intOf t27).toNat)
      case atStart => exact ⟨0, Nat.zero_le _, rfl, HI0⟩
      case round =>
        obtain ⟨j, hj, rfl, HJ⟩ := hrel
        clear HI0
        obtain ⟨va, vc, hva⟩ := ownsRow_form HJ.out.1
        subst hva
        by_cases hlt : j < i
        · have dj : decide ((j : Int) < (i : Int)) = true := decide_eq_true (by omega)
          have hwj : IntKind.i64.wrap ((j : Int) + 1) = (j : Int) + 1 := wrap_nat1 (by omega)
          have hjl : j < ps.length := by rw [HN.out]; exact hlt
          have hge := List.getElem?_eq_getElem hjl
          obtain ⟨b, off, u, rfl, cu, a, c, rfl, hxl, hx1, hx⟩ := HP.out j _ hge
          have hs := cat_succ hge
          have hle2 := Nat.le_trans (catN_le (ps := ps) (j + 1)) HC.out
          generalize ps[j] = q at *
          obtain ⟨qn, qx⟩ := q
          simp only at cu hs hxl hx1 hx
          have HS : Hid _ := hs
          rw [hs.1] at hle2
          have cu2 := (HJ.out.2.cell (World.block_lt_of_cell? w0 _ cu)).trans cu
          have hrow := HJ.out.1
          have hbw := HJ.out.2.size
          have HB : Hid _ := HJ.out.2
          clear hge hs HJ cu
          generalize catN (ps.take j) = t at *
          generalize catV (ps.take j) = xs at *
          by_cases hq0 : qn = 0
          · subst hq0
            have hqx : qx = [] := List.eq_nil_of_length_eq_zero (by simpa using hxl)
            subst hqx
            have htv : t ≤ vc := by
              rcases hrow.2 with ⟨e, h0⟩ | ⟨g, cap, cur, e, _, _, h3, _⟩
              · omega
              · cases e; exact h3
            have HF : Hid (wr.ownsRow w0.heap.size 36 4 (.slice va t vc) (catN (ps.take (j + 1))) (catV (ps.take (j + 1))) ∧ Below w0.heap.size w0 wr) := by
              rw [HS.out.1, HS.out.2, List.append_nil]
              exact ⟨hrow, HB.out⟩
            clear hrow HB HS
            go_wp2_with (first | (at_builtin; refine Aside.out ?_))
            delta Aside
            refine wpList_app0 rfl _ _ 30 rfl 36 i0 Tryz.underlying30 hi0 va t vc rfl htv a c rfl ?_
            clear cu2
            go_wp2_with fail
            exact ⟨⟨j + 1, hlt, by simp, HF⟩, by simp [intOf]; omega⟩
          · obtain ⟨sb, so, rfl, hcs⟩ := hx.resolve_left hq0
            go_wp2_with (first | (at_builtin; refine Aside.out ?_))
            delta Aside
            refine wpList_append_own_at _ rfl _ _ 30 rfl w0.heap.size 36 i0 _ 4 48 Tryz.underlying30 hi0 hz0 hz1 hz2 rfl (by decide) _ _ _ rfl hrow ⟨_, _, none⟩ qn c qx rfl hxl (fun k z hk => by rw [Addr.add_lit]; exact (HB.out.cell (World.block_lt_of_cell? w0 _ (hcs k z hk))).trans (hcs k z hk)) hx1 (by unfold maxLen; omega) (by omega) hbw ?_
            intro v8 w8 hown8 hgrow8 _ hat8
            have K8 : Kept (fun k => (Value.slice va t vc).ownBlock = some k) wr w8 := Kept.grown (Kept.refl _ wr) hgrow8 (fun k e => e)
            have HF : Hid (w8.ownsRow w0.heap.size 36 4 v8 (catN (ps.take (j + 1))) (catV (ps.take (j + 1))) ∧ Below w0.heap.size w0 w8) := by
              rw [HS.out.1, HS.out.2]
              exact ⟨hown8, HB.out.trans (K8.below hbw (fun q hq => (ownsRow_lt hrow hq).1))⟩
            clear hown8 hgrow8 hat8 K8 hrow cu2 hcs
            go_wp2_with fail
            exact ⟨⟨j + 1, hlt, by simp, HF⟩, by simp [intOf]; omega⟩
        · have dj : decide ((j : Int) < (i : Int)) = false := decide_eq_false (by omega)
          obtain rfl : j = i := by omega
          have HF : Hid (wr.ownsRow w0.heap.size 36 4 (.slice va (catN (ps.take j)) vc) (catN ps) (catV ps) ∧ Below w0.heap.size w0 wr) := by
            have := HJ.out
            rw [List.take_of_length_le (by rw [HN.out]; exact Nat.le_refl _)] at this ⊢
            exact this
          clear HJ
          generalize catN (ps.take j) = t at *
          go_wp2_with fail
          go_ret
          have := HF.out
          rw [HW0.out] at this
          exact ⟨_, rfl, this⟩
end Go.Proofs.YtlehlgipbhfioaaGreat

namespace Go.Proofs.YtlehlgipbhfioaaGreat
open Go.RowKit Go.Maps

theorem four (j : Nat) : ∃ i r, r < 4 ∧ j = i * 4 + r := ⟨j / 4, j % 4, Nat.mod_lt _ (by omega), by omega⟩
theorem SlF.len {w : World} {N : Nat} {pa : Option Addr} {n pc : Nat} {ks : List Lf} (h : SlF w N (.slice pa n pc) ks) : n = ks.length := by
  obtain ⟨a, cap, e, _⟩ := h.1
  cases e
  rfl
theorem formC_one {w : World} {N : Nat} {v : Value} {ks : List Lf} (h : SlF w N v ks) : ∀ u ∈ ks.flatMap formC, u.oneCell' = true := by
  intro u hu
  obtain ⟨k, hk, hu⟩ := List.mem_flatMap.1 hu
  obtain ⟨a, cap, e, _⟩ := (h.2 k hk).1.kidsIn
  simp only [formC, List.mem_cons, List.not_mem_nil, or_false] at hu
  rcases hu with rfl | rfl | rfl | rfl
  · rfl
  · rfl
  · rfl
  · rw [e]; rfl
theorem SlF.part {w : World} {N : Nat} {pa : Option Addr} {n pc : Nat} {ks : List Lf} (h : SlF w N (.slice pa n pc) ks) : PartAt 4 w (.slice pa n pc) n (ks.flatMap formC) := by
  have hn := h.len
  refine ⟨pa, pc, rfl, by rw [formC_len, hn], formC_one h, ?_⟩
  obtain ⟨a, cap, e, _, hz⟩ := h.1
  cases e
  rcases hz with e | ⟨kb, ko, rfl, hz⟩
  · exact Or.inl (by rw [e]; rfl)
  · refine Or.inr ⟨kb, ko, rfl, fun j v hj => ?_⟩
    obtain ⟨i, r, hr, rfl⟩ := four j
    rw [formC_at _ _ _ hr] at hj
    cases hk : ks[i]? with
    | none => rw [hk] at hj; cases hj
    | some k =>
      rw [hk] at hj
      change (formC k)[r]? = some v at hj
      obtain ⟨h1, h2⟩ := hz i k hk
      obtain ⟨c, fz, q0, q1, q2, q3, q4, _⟩ := (h.2 k (List.mem_of_getElem? hk)).1.cells
      rw [h1] at q0
      rw [h2] at q1 q2 q3 q4
      have g : ∀ j u, c[j]? = some u → w.cell? ⟨kb, j, none⟩ = some u := fun j u hu => by simp [World.cell?, q0, hu]
      rw [← Nat.add_assoc]
      rcases (by omega : r = 0 ∨ r = 1 ∨ r = 2 ∨ r = 3) with rfl | rfl | rfl | rfl
      · cases hj; exact g _ _ q1
      · cases hj; exact g _ _ q2
      · cases hj; exact g _ _ q3
      · cases hj; exact g _ _ q4
def setB (g : Nat) (j : Nat) (t : Lf) : Lf := .mk g (j * 4) t.op t.x t.y t.kv t.kids
theorem setB_er (g j : Nat) (t : Lf) : (setB g j t).er = t.er := by
  cases t
  simp [setB, Lf.er, Lf.op, Lf.x, Lf.y, Lf.kids]
/-- A row of one's own of Forms. -/
theorem row_slf {W : World} {B N : Nat} {v : Value} {ts : List Lf} (hr : W.ownsRow B 36 4 v ts.length (ts.flatMap formC)) (ht : ∀ t ∈ ts, KidsIn t.kv t.kids ∧ (∀ k ∈ t.kids, Here W k) ∧ WfR N t.er) : ∃ ks, SlF W N v ks ∧ ks.map Lf.er = ts.map Lf.er ∧ ks.length = ts.length := by
  rcases id hr.2 with ⟨e, h0⟩ | ⟨g, cap, cur, e, hg, hb, h1, h2, h3, h4⟩
  · have : ts = [] := List.eq_nil_of_length_eq_zero h0
    subst this
    exact ⟨[], ⟨⟨none, 0, e, Nat.le_refl _, Or.inl rfl⟩, fun k hk => by cases hk⟩, rfl, rfl⟩
  · refine ⟨ts.mapIdx (setB g), ⟨⟨some ⟨g, 0, none⟩, cap, by rw [List.length_mapIdx]; exact e, by rw [List.length_mapIdx]; exact h1, Or.inr ⟨g, 0, rfl, fun j t hj => ?_⟩⟩, fun k hk => ?_⟩, ?_, List.length_mapIdx⟩
    · rw [List.getElem?_mapIdx] at hj
      cases hk : ts[j]? with
      | none => rw [hk] at hj; cases hj
      | some t' =>
        rw [hk] at hj
        cases hj
        exact ⟨rfl, by simp [setB, Lf.o]⟩
    · obtain ⟨j, hj, rfl⟩ := List.mem_mapIdx.1 hk
      obtain ⟨k1, k2, k3⟩ := ht _ (List.getElem_mem hj)
      refine ⟨.mk trivial ⟨cur, (0, 0), hb, ?_⟩ k1 k2, by rw [setB_er]; exact k3⟩
      have hc : ∀ r, r < 4 → cur[j * 4 + r]? = (formC ts[j])[r]? := fun r hr' => by
        have e1 := formC_at ts j r hr'
        rw [List.getElem?_eq_getElem hj] at e1
        rw [← h4, List.getElem?_take_of_lt (by omega)] at e1
        simpa using e1
      exact ⟨hc 0 (by omega), hc 1 (by omega), hc 2 (by omega), hc 3 (by omega), rfl⟩
    · refine List.ext_getElem? fun i => ?_
      rw [List.getElem?_map, List.getElem?_map, List.getElem?_mapIdx]
      cases ts[i]? with
      | none => rfl
      | some t => simp [setB_er]
end Go.Proofs.YtlehlgipbhfioaaGreat

namespace Go.Proofs.YtlehlgipbhfioaaGreat
open Go.RowKit Go.Maps

/-- What Follows decides. -/
structure AskedF (l : List Tm) (fos : List Fo) (P : Pb) (fs : List Fm) : Prop where
  ok : FosOk l.length fos
  adds : Pb.adds l.length fos pb0 [] = (P, fs)
  fso : FsOk l.length fs (List.range fs.length)
  has : HasV fs P
  vrp : VrP P
  few : P.lemmas.length ≤ 100000 ∧ P.vars.length ≤ 2000 ∧ P.known.length ≤ 100000
def qLf (x y : Int) : Lf := .mk 0 0 0 x y (.slice none 0 0) []
theorem qLf_ok {W : World} {N : Nat} {x y : Int} (hx : 0 ≤ x ∧ x < N) (hy : 0 ≤ y ∧ y < N) : KidsIn (qLf x y).kv (qLf x y).kids ∧ (∀ k ∈ (qLf x y).kids, Here W k) ∧ WfR N (qLf x y).er := by
  have e : (qLf x y).er = .mk 0 x y [] := by simp [qLf, Lf.er]
  rw [e]
  exact ⟨⟨none, 0, rfl, Nat.zero_le _, Or.inl rfl⟩, fun k (hk : k ∈ ([] : List Lf)) => (nomatch hk), WfR.eq x y hx hy⟩
/-- Two slices of Forms in a row of slices. -/
theorem cat_parts {w : World} {g : Nat} {a1 a2 : Option Addr} {n1 n2 c1 c2 : Nat} {x1 x2 : List Value} (h : w.rowIs g 30 2 (fun j => if j = 0 then .slice a1 n1 c1 else .slice a2 n2 c2)) (p1 : PartAt 4 w (.slice a1 n1 c1) n1 x1) (p2 : PartAt 4 w (.slice a2 n2 c2) n2 x2) : ∀ (i : Nat) (q : Nat × List Value), [(n1, x1), (n2, x2)][i]? = some q → ∃ b off u, some (⟨g, 0, none⟩ : Addr) = some ⟨b, off, none⟩ ∧ w.cell? ⟨b, off + i, none⟩ = some u ∧ PartAt 4 w u q.1 q.2 := by
  intro i q hi
  match i, hi with
  | 0, hi => cases hi; exact ⟨g, 0, _, rfl, h.cell (i := 0) (by omega), p1⟩
  | 1, hi => cases hi; exact ⟨g, 0, _, rfl, h.cell (i := 1) (by omega), p2⟩
/-- A Form behind others. -/
theorem cat_in (w : World) (N : Nat) (pa : Option Addr) (pc : Nat) (ks : List Lf) (hk : SlF w N (.slice pa ks.length pc) ks) (hl : ks.length ≤ 1000) (g1 g2 : Nat) (t : Lf) (h1 : w.rowIs g1 30 2 (fun j => if j = 0 then .slice pa ks.length pc else .slice (some ⟨g2, 0, none⟩) 1 1)) (h2 : w.rowIs g2 36 4 (fun j => ((formC t)[j]?).getD undef)) (ht : KidsIn t.kv t.kids ∧ (∀ k ∈ t.kids, Here w k) ∧ WfR N t.er) :
    Calls Tryz.prog 25 #[.slice (some ⟨g1, 0, none⟩) 2 2] w fun e w' => ∃ ks' a c, e = .returned (.slice a (ks.length + 1) c) ∧ SlF w' N (.slice a (ks.length + 1) c) ks' ∧ ks'.map Lf.er = ks.map Lf.er ++ [t.er] ∧ Below w.heap.size w w' := by
  have hp2 : PartAt 4 w (.slice (some ⟨g2, 0, none⟩) 1 1) 1 (formC t) := by
    refine ⟨_, _, rfl, rfl, fun u hu => ?_, Or.inr ⟨g2, 0, rfl, fun j v hj => ?_⟩⟩
    · obtain ⟨a, cap, e, _⟩ := ht.1
      simp only [formC, List.mem_cons, List.not_mem_nil, or_false] at hu
      rcases hu with rfl | rfl | rfl | rfl
      · rfl
      · rfl
      · rfl
      · rw [e]; rfl
    · have hjl := (List.getElem?_eq_some_iff.1 hj).1
      rw [Nat.zero_add, h2.cell (i := j) (by simpa [formC] using hjl)]
      simp only [hj, Option.getD_some]
  have CA := catF_in w (some ⟨g1, 0, none⟩) 2 [(ks.length, ks.flatMap formC), (1, formC t)] (cat_parts h1 hk.part hp2) (by simp [catN]; omega) (by simp)
  refine CA.mono ?_
  rintro e w' ⟨v, rfl, R, B⟩
  have e1 : catN [(ks.length, ks.flatMap formC), (1, formC t)] = (ks ++ [t]).length := by simp [catN]
  have e2 : catV [(ks.length, ks.flatMap formC), (1, formC t)] = (ks ++ [t]).flatMap formC := by simp [catV]
  rw [e1, e2] at R
  obtain ⟨ks', s1, s2, s3⟩ := row_slf (N := N) R (fun z hz => by
    rcases List.mem_append.1 hz with hz | hz
    · have h3 := (hk.below B).2 z hz
      exact ⟨h3.1.kidsIn, fun k hk => h3.1.kid hk, h3.2⟩
    · rw [List.mem_singleton] at hz
      subst hz
      exact ⟨ht.1, fun k hk => (ht.2.1 k hk).keep (fun i _ _ _ hc => (B.block i (Array.getElem?_eq_some_iff.1 hc).1).trans hc), ht.2.2⟩)
  obtain ⟨a, c, rfl⟩ := ownsRow_form R
  rw [List.length_append] at s1 ⊢
  exact ⟨ks', a, c, rfl, s1, by rw [s2, List.map_append]; rfl, B⟩
theorem cS_er (ks : List Lf) : cS ks = 1 + ((ks.map Lf.er).map cF).sum := by
  unfold cS
  rw [List.map_map]
  rfl
def nLf (g : Nat) (x y : Int) : Lf := .mk 0 0 1 0 0 (.slice (some ⟨g, 0, none⟩) 1 1) [.mk g 0 0 x y (.slice none 0 0) []]
theorem nLf_er (g : Nat) (x y : Int) : (nLf g x y).er = Fo.neg (Fo.eq x y) := by simp [nLf, Lf.er, Fo.neg, Fo.eq]
theorem nLf_ok {W : World} {N g : Nat} {x y : Int} (hx : 0 ≤ x ∧ x < N) (hy : 0 ≤ y ∧ y < N) (hg : W.heap[g]? = some (.cells #[.int .i64 0, .int .i64 x, .int .i64 y, .slice none 0 0] 36)) : KidsIn (nLf g x y).kv (nLf g x y).kids ∧ (∀ k ∈ (nLf g x y).kids, Here W k) ∧ WfR N (nLf g x y).er := by
  rw [nLf_er]
  refine ⟨⟨some ⟨g, 0, none⟩, 1, rfl, Nat.le_refl _, Or.inr ⟨g, 0, rfl, fun j t hj => ?_⟩⟩, fun k (hk : k ∈ [Lf.mk g 0 0 x y (.slice none 0 0) []]) => ?_, WfR.neg _ (WfR.eq x y hx hy)⟩
  · match j, hj with
    | 0, hj => cases hj; exact ⟨rfl, rfl⟩
  · rw [List.mem_singleton] at hk
    subst hk
    exact .mk trivial ⟨_, (0, 0), hg, rfl, rfl, rfl, rfl, rfl⟩ ⟨none, 0, rfl, Nat.le_refl _, Or.inl rfl⟩ (fun k hk => (nomatch hk))

set_option maxRecDepth 100000 in
set_option maxHeartbeats 4000000 in
theorem dfollows_in (w : World) (base p : Nat) (ev : Value) (nb fb : Nat) (l : List Tm) (hB : Bk w base p ev nb fb l) (hb : Cc.Bd l) (hl : l.length ≤ 150) (pa : Option Addr) (pc : Nat) (ks : List Lf) (hk : SlF w l.length (.slice pa ks.length pc) ks) (hc : cS ks ≤ 600) (x y : Int) (hx : 0 ≤ x ∧ x < l.length) (hy : 0 ≤ y ∧ y < l.length) (P : Pb) (fs : List Fm) (hA : AskedF l (ks.map Lf.er ++ [Fo.neg (Fo.eq x y)]) P fs) (C : Bool) (hM : MdlT l fs (List.range fs.length) (fun r _ => (r = none ↔ C = true)) 2 P) :
    Calls Tryz.prog 9 #[.pointer (some ⟨p, 0, none⟩), .slice pa ks.length pc, .agg #[.int .i64 0, .int .i64 x, .int .i64 y, .slice none 0 0]] w fun e w' => e = .returned (.tuple #[.bool C, .int .i64 0]) ∧ Below w.heap.size w w' := by
  have HH : Hid (_ ∧ _ ∧ _ ∧ _ ∧ _) := And.intro hB (And.intro hA (And.intro hM (And.intro hk (And.intro hc (And.intro hx hy)))))
  have hkl : ks.length ≤ 599 := by
    have h1 := sum_cF ks
    unfold cS at hc
    omega
  clear hB hA hM hk hc hx hy
  have hA3 : Below w.heap.size w (((w.alloc (.cells #[.int .i64 0, .int .i64 x, .int .i64 y, .slice none 0 0] 36)).alloc (.cells #[.int .i64 0, .int .i64 x, .int .i64 y, .slice none 0 0] 36)).alloc (.cells #[.slice pa ks.length pc, .slice (some ⟨w.heap.size + 1, 0, none⟩) 1 1] 30)) := (((Below.refl _ _).alloc (Nat.le_refl _) _).alloc (by simp) _).alloc (by simp; omega) _
  have r1 := made_row ((w.alloc (.cells #[.int .i64 0, .int .i64 x, .int .i64 y, .slice none 0 0] 36)).alloc (.cells #[.int .i64 0, .int .i64 x, .int .i64 y, .slice none 0 0] 36)) #[.slice pa ks.length pc, .slice (some ⟨w.heap.size + 1, 0, none⟩) 1 1] 30
  have r2 := made_row (w.alloc (.cells #[.int .i64 0, .int .i64 x, .int .i64 y, .slice none 0 0] 36)) #[.int .i64 0, .int .i64 x, .int .i64 y, .slice none 0 0] 36
  have g2 : (((w.alloc (.cells #[.int .i64 0, .int .i64 x, .int .i64 y, .slice none 0 0] 36)).alloc (.cells #[.int .i64 0, .int .i64 x, .int .i64 y, .slice none 0 0] 36)).alloc (.cells #[.slice pa ks.length pc, .slice (some ⟨w.heap.size + 1, 0, none⟩) 1 1] 30)).heap[w.heap.size + 1]? = some (.cells #[.int .i64 0, .int .i64 x, .int .i64 y, .slice none 0 0] 36) := by
    rw [heap_alloc_old _ _ (by simp)]
    have := heap_alloc_new (w.alloc (.cells #[.int .i64 0, .int .i64 x, .int .i64 y, .slice none 0 0] 36)) (.cells #[.int .i64 0, .int .i64 x, .int .i64 y, .slice none 0 0] 36)
    rwa [show (w.alloc (.cells #[.int .i64 0, .int .i64 x, .int .i64 y, .slice none 0 0] 36)).heap.size = w.heap.size + 1 by simp] at this
  rw [show ((w.alloc (.cells #[.int .i64 0, .int .i64 x, .int .i64 y, .slice none 0 0] 36)).alloc (.cells #[.int .i64 0, .int .i64 x, .int .i64 y, .slice none 0 0] 36)).heap.size = w.heap.size + 1 + 1 by simp] at r1
  rw [show (w.alloc (.cells #[.int .i64 0, .int .i64 x, .int .i64 y, .slice none 0 0] 36)).heap.size = w.heap.size + 1 by simp] at r2
  have CA1 := cat_in _ l.length pa pc ks (HH.out.2.2.2.1.below hA3) (by omega) (w.heap.size + 1 + 1) (w.heap.size + 1) (qLf x y) (r1.congr (fun j hj => by
    have : j = 0 ∨ j = 1 := by simp at hj; omega
    rcases this with rfl | rfl <;> rfl)) ((r2.of_block (heap_alloc_old _ _ (by simp))).congr (fun j hj => by
    have : j = 0 ∨ j = 1 ∨ j = 2 ∨ j = 3 := by simp at hj; omega
    rcases this with rfl | rfl | rfl | rfl <;> rfl)) (qLf_ok HH.out.2.2.2.2.2.1 HH.out.2.2.2.2.2.2)
  have HA3 : Hid (_ ∧ _) := And.intro hA3 g2
  have HCA : Hid _ := CA1
  clear CA1 r1 r2 g2 hA3
  go_enter Tryz.func9, Tryz.ntmps9
  go_wp2_with (first | (go_at_call 25; refine Calls.mono HCA.out ?_; rintro e w1 ⟨ks1, a1, c1, rfl, S1, E1, B1⟩; refine Aside.out ?_))
  delta Aside
  have hB1 : Below w.heap.size w w1 := HA3.out.1.trans (B1.mono HA3.out.1.size)
  have g1 : w1.heap[w.heap.size + 1]? = some (.cells #[.int .i64 0, .int .i64 x, .int .i64 y, .slice none 0 0] 36) := (B1.block _ (by simp)).trans HA3.out.2
  have hcost : cS ks1 ≤ 601 := by
    have h1 := HH.out.2.2.2.2.1
    have h2 : cF (qLf x y).er = 1 := by simp [qLf, Lf.er, cF]
    rw [cS_er] at h1 ⊢
    rw [E1, List.map_append, List.sum_append]
    simp only [List.map_cons, List.map_nil, List.sum_cons, List.sum_nil, h2]
    omega
  have CK := check_by w1 (.pointer (some ⟨p, 0, none⟩)) a1 (ks.length + 1) c1 true false (areFormulas_in w1 base p ev nb fb l (HH.out.1.below HH.out.1.low hB1) a1 (ks.length + 1) c1 ks1 S1 (by omega)) (fun W hW => by
    have hlen := S1.len
    have S2 := S1.below hW
    rw [hlen] at S2 ⊢
    exact areMany_in W l.length a1 c1 ks1 S2 hcost)
  have HB1 : Hid (_ ∧ _) := And.intro hB1 g1
  have HCK : Hid _ := CK
  have ck0 : chkE true false = 0 := rfl
  rw [ck0] at HCK
  clear HCA HA3 S1 E1 B1 hB1 g1 hcost CK ck0
  apply_assumption
  go_wp2_with (first | (go_at_call 20; refine Calls.mono HCK.out ?_; rintro e w2 ⟨rfl, B2⟩; refine Aside.out ?_))
  delta Aside
  have hB2 : Below w.heap.size w w2 := HB1.out.1.trans (B2.mono HB1.out.1.size)
  have g1 : w2.heap[w.heap.size + 1]? = some (.cells #[.int .i64 0, .int .i64 x, .int .i64 y, .slice none 0 0] 36) := (B2.block _ (Array.getElem?_eq_some_iff.1 HB1.out.2).1).trans HB1.out.2
  obtain ⟨al, hal⟩ : ∃ a, w.heap.size + 1 = a := ⟨_, rfl⟩
  rw [hal] at g1
  simp only [hal]
  have hB3 : Below w2.heap.size w2 (((w2.alloc (.cells #[.int .i64 1, .int .i64 0, .int .i64 0, .slice (some ⟨al, 0, none⟩) 1 1] 36)).alloc (.cells #[.int .i64 1, .int .i64 0, .int .i64 0, .slice (some ⟨al, 0, none⟩) 1 1] 36)).alloc (.cells #[.slice pa ks.length pc, .slice (some ⟨w2.heap.size + 1, 0, none⟩) 1 1] 30)) := (((Below.refl _ _).alloc (Nat.le_refl _) _).alloc (by simp) _).alloc (by simp; omega) _
  have r1 := made_row ((w2.alloc (.cells #[.int .i64 1, .int .i64 0, .int .i64 0, .slice (some ⟨al, 0, none⟩) 1 1] 36)).alloc (.cells #[.int .i64 1, .int .i64 0, .int .i64 0, .slice (some ⟨al, 0, none⟩) 1 1] 36)) #[.slice pa ks.length pc, .slice (some ⟨w2.heap.size + 1, 0, none⟩) 1 1] 30
  have r2 := made_row (w2.alloc (.cells #[.int .i64 1, .int .i64 0, .int .i64 0, .slice (some ⟨al, 0, none⟩) 1 1] 36)) #[.int .i64 1, .int .i64 0, .int .i64 0, .slice (some ⟨al, 0, none⟩) 1 1] 36
  rw [show ((w2.alloc (.cells #[.int .i64 1, .int .i64 0, .int .i64 0, .slice (some ⟨al, 0, none⟩) 1 1] 36)).alloc (.cells #[.int .i64 1, .int .i64 0, .int .i64 0, .slice (some ⟨al, 0, none⟩) 1 1] 36)).heap.size = w2.heap.size + 1 + 1 by simp] at r1
  rw [show (w2.alloc (.cells #[.int .i64 1, .int .i64 0, .int .i64 0, .slice (some ⟨al, 0, none⟩) 1 1] 36)).heap.size = w2.heap.size + 1 by simp] at r2
  have CA2 := cat_in _ l.length pa pc ks ((HH.out.2.2.2.1.below hB2).below hB3) (by omega) (w2.heap.size + 1 + 1) (w2.heap.size + 1) (nLf al x y) (r1.congr (fun j hj => by
    have : j = 0 ∨ j = 1 := by simp at hj; omega
    rcases this with rfl | rfl <;> rfl)) ((r2.of_block (heap_alloc_old _ _ (by simp))).congr (fun j hj => by
    have : j = 0 ∨ j = 1 ∨ j = 2 ∨ j = 3 := by simp at hj; omega
    rcases this with rfl | rfl | rfl | rfl <;> rfl)) (nLf_ok HH.out.2.2.2.2.2.1 HH.out.2.2.2.2.2.2 ((hB3.block al (Array.getElem?_eq_some_iff.1 g1).1).trans g1))
  have HB3 : Hid (Below w.heap.size w _) := hB2.trans (hB3.mono hB2.size)
  have HCA : Hid _ := CA2
  clear CA2 r1 r2 g1 hB2 hB3 B2 HCK HB1 hal
  apply_assumption
  go_wp2_with (first | (go_at_call 25; refine Calls.mono HCA.out ?_; rintro e w3 ⟨ks3, a3, c3, rfl, S3, E3, B3⟩; refine Aside.out ?_))
  delta Aside
  have hB4 : Below w.heap.size w w3 := HB3.out.trans (B3.mono HB3.out.size)
  have hBk3 := HH.out.1.below HH.out.1.low hB4
  rw [nLf_er] at E3
  have hF3 := S3.fsm
  have hlen3 : (ks.map Lf.er ++ [Fo.neg (Fo.eq x y)]).length = ks.length + 1 := by simp
  rw [E3] at hF3
  have NW := newProblem_in w3 base p ev nb fb l hBk3 (by omega) a3 c3 _ hF3 HH.out.2.1.ok
  rw [hlen3] at NW
  have HB4 : Hid (_ ∧ _) := And.intro hB4 hBk3
  have HNW : Hid _ := NW
  clear HCA HB3 S3 E3 B3 hB4 hBk3 hF3 hlen3 NW
  apply_assumption
  go_wp2_with (first | (go_at_call 21; refine Calls.mono HNW.out ?_; rintro e w4 ⟨pb, vb, kb, ta, tc, fv, lv, S, gs, rfl, N4⟩; refine Aside.out ?_))
  delta Aside
  rw [HH.out.2.1.adds] at N4
  obtain ⟨fa, fc, rfl⟩ := ownsRow_form N4.row
  have hgl : gs.length = fs.length := N4.len
  have c2 : w4.cell? ⟨pb, 2, none⟩ = some (.slice fa gs.length fc) := N4.pm.cells.cell (i := 2) (by omega)
  have hfl : gs.length = ks.length + 1 := by
    rw [hgl]
    have := adds_len l.length (ks.map Lf.er ++ [Fo.neg (Fo.eq x y)]) pb0 []
    rw [HH.out.2.1.adds] at this
    simpa using this
  rw [hfl] at c2
  have AL := dall_in w4 pb fa (ks.length + 1) fc (by omega) c2
  have hfe : fs.length = ks.length + 1 := by omega
  have HN4 : Hid (_ ∧ _) := And.intro N4 hfe
  clear HNW N4 hgl hfl hfe c2
  apply_assumption
  go_wp2_with (first | (go_at_call 23; refine AL.mono ?_; rintro e w5 ⟨rfl, R5, B5⟩; refine Aside.out ?_))
  delta Aside
  have N5 := HN4.out.1.below B5
  have R5' := R5.own (by rw [List.length_range]; omega)
  have hE := N5.env HB4.out.2 R5'
  rw [List.length_range] at hE
  have MD := model_in solveOk S w5 pb vb kb _ lv P base p ev nb fb l ta tc N5.pm hb hl fs (some ⟨w4.heap.size, 0, none⟩) (ks.length + 1) (List.range (ks.length + 1)) hE (by rw [← HN4.out.2]; exact HH.out.2.1.fso) HH.out.2.1.has HH.out.2.1.vrp HH.out.2.1.few (fun r _ => (r = none ↔ C = true)) 2 (Nat.le_refl _) (by rw [← HN4.out.2]; exact HH.out.2.2.1)
  rw [List.length_range] at MD
  have MD2 : Calls Tryz.prog 22 #[.pointer (some ⟨pb, 0, none⟩), .slice (some ⟨w4.heap.size, 0, none⟩) (ks.length + 1) (ks.length + 1)] w5 fun e w' => ∃ cv, e = .returned (.tuple #[cv, .bool (!C)]) ∧ Hid (Below w.heap.size w w') := by
    refine MD.mono ?_
    rintro e w6 ⟨r, Q, S', lv', hr, X6, _, _, hnone, hans⟩
    have hb35 : Below w3.heap.size w3 w5 := (N5.parts w5 (Kept.refl _ _)).2.1
    have hb56 : Below w3.heap.size w5 w6 := X6.kept.below hb35.size (fun k hk => N5.low k (Or.inl hk))
    have hb36 := hb35.trans hb56
    have hbw : Below w.heap.size w w6 := HB4.out.1.trans (hb36.mono HB4.out.1.size)
    cases r with
    | none =>
      rw [hr.1 rfl]
      exact ⟨_, hnone rfl, hbw⟩
    | some t =>
      obtain ⟨cb, g, e6, _⟩ := hans t rfl
      have hC : C = false := by
        cases C with
        | false => rfl
        | true => exact absurd (hr.2 rfl) (by simp)
      rw [hC]
      exact ⟨_, e6, hbw⟩
  clear MD hE R5' N5 R5 B5 AL HN4 HH HB4
  apply_assumption
  go_wp2_with (first | (go_at_call 22; refine MD2.mono ?_; rintro e w6 ⟨cv, rfl, H6⟩))
  go_ret2
  exact ⟨rfl, H6.out⟩
end Go.Proofs.YtlehlgipbhfioaaGreat

namespace Go.Proofs.YtlehlgipbhfioaaGreat
open Go.RowKit Go.Maps

theorem bnk_of {l : List Tm} (h : Cc.Bd l) : Bnk l := ⟨fun _ t ht => h.four t (List.mem_of_getElem? ht), fun i t ht => h.args i t ht, fun _ _ t u ht hu => h.one t (List.mem_of_getElem? ht) u (List.mem_of_getElem? hu)⟩
theorem foE_wf {N : Nat} {q : Pr} (h : InN N q) : WfR N (foE q) := .eq _ _ ⟨by omega, by have := h.1; omega⟩ ⟨by omega, by have := h.2; omega⟩
theorem foE_sz (q : Pr) : szF (foE q) ≤ 1000 ∧ szF (Fo.neg (foE q)) ≤ 1000 ∧ cF (foE q) = 1 := by simp [foE, Fo.eq, Fo.neg, szF, cF]
theorem EqI.small {n : Nat} {qs : List Pr} {P : Pb} {fs : List Fm} (h : EqI n qs P fs) (hl : qs.length ≤ 600) : VqP P ∧ P.lemmas.length ≤ 600 ∧ P.count ≤ 600 ∧ P.vars.length ≤ 600 := by
  have h1 := addP_len [] (qs.map ordQ)
  rw [← h.keys, List.length_map, List.length_map, List.length_nil] at h1
  have h2 := h.num.cnt
  have h3 := h.few
  exact ⟨fun e he => (h.pk.vars e he).2, by omega, by omega, by omega⟩
theorem EqI.get {n : Nat} {qs : List Pr} {P : Pb} {fs : List Fm} (h : EqI n qs P fs) {i : Nat} (hi : i < fs.length) : ∃ q ∈ qs, (Fm.get fs i).am = [ordQ q] ∧ P.num (ordQ q) ≠ none := by
  have hi2 : i < qs.length := by rw [← h.len]; exact hi
  obtain ⟨v, h1, h2⟩ := h.at_ i _ (List.getElem?_eq_getElem hi2)
  exact ⟨qs[i], List.getElem_mem hi2, by rw [Fm.get_at h2], by rw [h1]; simp⟩
theorem ordQ_in {n : Nat} {q : Pr} (h : InN n q) : (ordQ q).1 ≤ (ordQ q).2 ∧ (ordQ q).2 < n := by
  have := h.1
  have := h.2
  unfold ordQ ordP
  simp only
  omega
theorem eqs_fos {n : Nat} (hn : n ≤ 1000) {qs : List Pr} (hq : ∀ q ∈ qs, InN n q) (hl : qs.length ≤ 600) : FosOk n (qs.map foE) := by
  refine ⟨fun f hf => ?_, by rw [List.length_map]; omega, fun i hi => ?_⟩
  · obtain ⟨q, hqm, rfl⟩ := List.mem_map.1 hf
    exact each_ok hn (foE_wf (hq q hqm)) (foE_sz q).1
  · rw [List.length_map] at hi
    have h := (EqI.all n qs i hi).small (by rw [List.length_take]; omega)
    rw [← List.map_take]
    exact ⟨h.1, by omega, by omega, by omega⟩
theorem eqs_fso {n : Nat} {qs : List Pr} {P : Pb} {fs : List Fm} (h : EqI n qs P fs) (hq : ∀ q ∈ qs, InN n q) (hl : qs.length ≤ 600) : FsOk n fs (List.range fs.length) := by
  refine ⟨fun i hi => List.mem_range.1 hi, by rw [List.length_range, h.len]; omega, fun i hi => ?_, ?_⟩
  · obtain ⟨q, h1, h2, _⟩ := h.get hi
    rw [h2]
    refine ⟨by simp, fun a ha => ?_⟩
    rw [List.mem_singleton] at ha
    subst ha
    exact ordQ_in (hq q h1)
  · rw [fm_range, h.j.ams, List.length_map]
    omega
theorem eqs_has {n : Nat} {qs : List Pr} {P : Pb} {fs : List Fm} (h : EqI n qs P fs) : HasV fs P := fun i hi a ha => by
  obtain ⟨q, _, h2, h3⟩ := h.get hi
  rw [h2, List.mem_singleton] at ha
  subst ha
  exact h3
/-- What Decide is asked of equalities. -/
theorem eqs_asked {W : World} {l : List Tm} (hl : l.length ≤ 150) {qs : List Pr} (hq : ∀ q ∈ qs, InN l.length q) (hn : qs.length ≤ 600) {pa : Option Addr} {pc : Nat} {ks : List Lf} (hs : SlF W l.length (.slice pa ks.length pc) ks) (he : ks.map Lf.er = qs.map foE) : Asked W l pa pc ks (Pb.adds l.length (qs.map foE) pb0 []).1 (Pb.adds l.length (qs.map foE) pb0 []).2 := by
  have h := EqI.all l.length qs qs.length (Nat.le_refl _)
  rw [List.take_length] at h
  have hs2 := h.small hn
  refine ⟨hs, ?_, by rw [he]; exact eqs_fos (by omega) hq hn, by rw [he], eqs_fso h hq hn, eqs_has h, h.pk.vars, by omega, by omega, by rw [h.known]; simp⟩
  have hsum : ((qs.map foE).map cF).sum = qs.length := by
    clear hs2 h hs he hn hq
    induction qs with
    | nil => rfl
    | cons q qs ih => simp only [List.map_cons, List.sum_cons, (foE_sz q).2.2, ih, List.length_cons]; omega
  rw [cS_er, he, hsum]
  omega
theorem eqs_cost {ks : List Lf} {qs : List Pr} (he : ks.map Lf.er = qs.map foE) : cS ks = 1 + qs.length := by
  have hsum : ((qs.map foE).map cF).sum = qs.length := by
    clear he
    induction qs with
    | nil => rfl
    | cons q qs ih => simp only [List.map_cons, List.sum_cons, (foE_sz q).2.2, ih, List.length_cons]; omega
  rw [cS_er, he, hsum]
theorem eqs_model {l : List Tm} (hb : Cc.Bd l) {qs : List Pr} (hq : ∀ q ∈ qs, InN l.length q) (hn : qs.length ≤ 600) : MdlT l (Pb.adds l.length (qs.map foE) pb0 []).2 (List.range (Pb.adds l.length (qs.map foE) pb0 []).2.length) (fun r _ => ∃ t, r = some t) 1 (Pb.adds l.length (qs.map foE) pb0 []).1 := by
  have h := EqI.all l.length qs qs.length (Nat.le_refl _)
  rw [List.take_length] at h
  exact eq_model (bnk_of hb) hq hn h
/-- What Follows is asked of equalities. -/
theorem eqs_follows {l : List Tm} (hb : Cc.Bd l) (hl : l.length ≤ 150) {qs : List Pr} (hq : ∀ q ∈ qs, InN l.length q) (hn : qs.length ≤ 599) {q0 : Pr} (h0 : InN l.length q0) :
    ∃ P fs, AskedF l (qs.map foE ++ [Fo.neg (foE q0)]) P fs ∧ MdlT l fs (List.range fs.length) (fun r _ => (r = none ↔ Cc.Cg l qs q0.1 q0.2)) 2 P := by
  have h := EqI.all l.length qs qs.length (Nat.le_refl _)
  rw [List.take_length] at h
  have F := FoI.of h q0
  have hs := h.small (by omega)
  obtain ⟨v1, v2, v3, v4, v5, v6⟩ := vari_small hs.1 (ordQ q0)
  refine ⟨_, _, ⟨?_, by rw [adds_snoc, addF_neg, fmOf_neg], ?_, ?_, ?_, ?_⟩, follow_model (bnk_of hb) hl hq (by omega) h0 F⟩
  · refine ⟨fun f hf => ?_, by simp; omega, fun i hi => ?_⟩
    · rcases List.mem_append.1 hf with hf | hf
      · exact (eqs_fos (by omega) hq (by omega)).each f hf
      · rw [List.mem_singleton] at hf
        subst hf
        exact each_ok (by omega) (.neg _ (foE_wf h0)) (foE_sz q0).2.1
    · by_cases hi2 : i ≤ (qs.map foE).length
      · rw [List.take_append_of_le_length hi2]
        exact (eqs_fos (by omega) hq (by omega)).small i hi2
      · rw [List.take_of_length_le (by simp at hi hi2 ⊢; omega), adds_snoc, addF_neg]
        refine ⟨v1, ?_, ?_, ?_⟩ <;> simp only <;> omega
  · have f1 := eqs_fso h hq (by omega)
    have hlen : ∀ (g : Fm), ((Pb.adds l.length (qs.map foE) pb0 []).2 ++ [g]).length = qs.length + 1 := fun g => by rw [List.length_append, h.len]; rfl
    refine ⟨fun i hi => List.mem_range.1 hi, by rw [List.length_range, hlen]; omega, fun i hi => ?_, ?_⟩
    · rw [hlen] at hi
      by_cases hi2 : i < qs.length
      · have : Fm.get ((Pb.adds l.length (qs.map foE) pb0 []).2 ++ [⟨[ordQ q0], [[-(((Pb.adds l.length (qs.map foE) pb0 []).1.vari (ordQ q0)).1 : Int)]], fun e => evE l.length e (Fo.neg (foE q0))⟩]) i = Fm.get (Pb.adds l.length (qs.map foE) pb0 []).2 i := by
          unfold Fm.get
          rw [List.getElem?_append_left (by rw [h.len]; exact hi2)]
        rw [this]
        exact f1.am i (by rw [h.len]; exact hi2)
      · have : Fm.get ((Pb.adds l.length (qs.map foE) pb0 []).2 ++ [⟨[ordQ q0], [[-(((Pb.adds l.length (qs.map foE) pb0 []).1.vari (ordQ q0)).1 : Int)]], fun e => evE l.length e (Fo.neg (foE q0))⟩]) i = ⟨[ordQ q0], [[-(((Pb.adds l.length (qs.map foE) pb0 []).1.vari (ordQ q0)).1 : Int)]], fun e => evE l.length e (Fo.neg (foE q0))⟩ := by
          refine Fm.get_at ?_
          rw [List.getElem?_append_right (by rw [h.len]; omega), h.len, show i - qs.length = 0 by omega]
          rfl
        rw [this]
        refine ⟨by simp, fun a ha => ?_⟩
        simp only [List.mem_singleton] at ha
        subst ha
        exact ordQ_in h0
    · rw [fm_range, List.flatMap_append, h.j.ams, List.length_append, List.length_map]
      simp
      omega
  · intro i hi a ha
    by_cases hi2 : i < (Pb.adds l.length (qs.map foE) pb0 []).2.length
    · have : Fm.get ((Pb.adds l.length (qs.map foE) pb0 []).2 ++ [⟨[ordQ q0], [[-(((Pb.adds l.length (qs.map foE) pb0 []).1.vari (ordQ q0)).1 : Int)]], fun e => evE l.length e (Fo.neg (foE q0))⟩]) i = Fm.get (Pb.adds l.length (qs.map foE) pb0 []).2 i := by
        unfold Fm.get
        rw [List.getElem?_append_left hi2]
      rw [this] at ha
      exact vari_keeps _ _ _ (eqs_has h i hi2 a ha)
    · have hi3 : i = (Pb.adds l.length (qs.map foE) pb0 []).2.length := by
        rw [List.length_append] at hi
        simp at hi
        omega
      have : Fm.get ((Pb.adds l.length (qs.map foE) pb0 []).2 ++ [⟨[ordQ q0], [[-(((Pb.adds l.length (qs.map foE) pb0 []).1.vari (ordQ q0)).1 : Int)]], fun e => evE l.length e (Fo.neg (foE q0))⟩]) i = ⟨[ordQ q0], [[-(((Pb.adds l.length (qs.map foE) pb0 []).1.vari (ordQ q0)).1 : Int)]], fun e => evE l.length e (Fo.neg (foE q0))⟩ := by
        refine Fm.get_at ?_
        rw [List.getElem?_append_right (by omega), hi3, Nat.sub_self]
        rfl
      rw [this] at ha
      simp only [List.mem_singleton] at ha
      subst ha
      rw [F.num]
      simp
  · exact VrP.vari h.pk.vars _
  · have hk : ((Pb.adds l.length (qs.map foE) pb0 []).1.vari (ordQ q0)).2.known = [] := by rw [(Pb.vari_ok _ _).2.2, h.known]
    exact ⟨by omega, by omega, by rw [hk]; simp⟩
end Go.Proofs.YtlehlgipbhfioaaGreat
