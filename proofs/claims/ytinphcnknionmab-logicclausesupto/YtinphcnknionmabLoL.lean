/- Package logic: whole, its deferred function; Parse. -/
import Derived.Test.YtinphcnknionmabLoK
import Derived.Test.YtinphcnknionmabP15
namespace Go.Proofs.Ytinphcnknionmab
open Go.RowKit Go.Maps

theorem gassert_nil (w : World) : (Instr.typeAssert .nilIface 20 109 true).run Try.prog w = .ok (.tuple #[.agg #[.int .i64 0, .int .i64 0], .bool false]) w := by kernel_rfl
theorem gassert_ref (w : World) (v : Value) : (Instr.typeAssert (.iface 109 v) 20 109 true).run Try.prog w = .ok (.tuple #[v, .bool true]) w := by kernel_rfl

theorem rep13 : Array.replicate 13 undef = #[undef, undef, undef, undef, undef, undef, undef, undef, undef, undef, undef, undef, undef] := rfl

set_option maxHeartbeats 1000000 in
theorem gcatch_idle (a1 a2 a3 : Value) (w : World) :
    CallsD Try.prog 48 #[a1, a2, a3] .returning w fun e u' w' => e = .returned (.tuple #[]) ∧ u' = .returning ∧ w' = w.alloc (.cells #[.int .i64 0, .int .i64 0] 109) := by
  refine callsD_of_wpS Try.func48 rfl fun c₀ cs hu => ?_
  apply wpS_seq
  apply wpS_region
  simp [wpOpsS, go_sem, recoverD, hu, Try.ntmps48, Exit.thenS, gassert_nil, rep13]
  refine wpS_of_wp ?_
  go_wp2
  cases c₀
  simp_all [bodyPostS, results, Try.results48]

/-- whole's three boxes. -/
structure GBoxes (w : World) (b : Nat) (v0 v1 v2 v3 v4 v5 : Value) : Prop where
  f : w.rowIs b 31 4 (frm v0 v1 v2 v3)
  e : Box w (b + 1) 59 v4
  q : Box w (b + 2) 3 v5

theorem GBoxes.kept {w w' : World} {S : Nat → Prop} {b : Nat} {v0 v1 v2 v3 v4 v5 : Value} (h : GBoxes w b v0 v1 v2 v3 v4 v5) (K : Kept S w w') (hS : ∀ k, b ≤ k → k ≤ b + 2 → ¬ S k) : GBoxes w' b v0 v1 v2 v3 v4 v5 :=
  ⟨h.f.of_block (K.block _ h.f.lt (hS _ (by omega) (by omega))), h.e.of_block (K.block _ (World.rowIs.lt h.e) (hS _ (by omega) (by omega))), h.q.of_block (K.block _ (World.rowIs.lt h.q) (hS _ (by omega) (by omega)))⟩

theorem rowIs_other {w : World} {b c n : Nat} {ty : TypeId} {f : Nat → Value} (h : w.rowIs b ty n f) (hne : b ≠ c) (o : Nat) (u : Value) : (w.setCell ⟨c, o, none⟩ u).rowIs b ty n f :=
  h.of_block ((Kept1.set (Kept.refl _ w) o u).block b h.lt hne)
theorem GBoxes.put {w : World} {b : Nat} {v0 v1 v2 v3 v4 v5 : Value} (h : GBoxes w b v0 v1 v2 v3 v4 v5) (u0 u1 u2 u3 u4 u5 : Value) : GBoxes (((put4 w b u0 u1 u2 u3).setCell ⟨b + 1, 0, none⟩ u4).setCell ⟨b + 2, 0, none⟩ u5) b u0 u1 u2 u3 u4 u5 :=
  ⟨rowIs_other (rowIs_other (put_form h.f u0 u1 u2 u3) (by omega) _ _) (by omega) _ _,
   Box.other (Box.set (Box.other (Box.other (Box.other (Box.other h.e (by omega) _ _) (by omega) _ _) (by omega) _ _) (by omega) _ _) u4) (by omega) _ _,
   Box.set (Box.other (Box.other (Box.other (Box.other (Box.other h.q (by omega) _ _) (by omega) _ _) (by omega) _ _) (by omega) _ _) (by omega) _ _) u5⟩
theorem GBoxes.putF {w : World} {b : Nat} {v0 v1 v2 v3 v4 v5 : Value} (h : GBoxes w b v0 v1 v2 v3 v4 v5) (u0 u1 u2 u3 : Value) : GBoxes (put4 w b u0 u1 u2 u3) b u0 u1 u2 u3 v4 v5 :=
  ⟨put_form h.f u0 u1 u2 u3, Box.other (Box.other (Box.other (Box.other h.e (by omega) _ _) (by omega) _ _) (by omega) _ _) (by omega) _ _, Box.other (Box.other (Box.other (Box.other h.q (by omega) _ _) (by omega) _ _) (by omega) _ _) (by omega) _ _⟩
theorem GBoxes.putK (w : World) (b : Nat) (u0 u1 u2 u3 u4 u5 : Value) : Kept (fun k => b ≤ k ∧ k ≤ b + 2) w (((put4 w b u0 u1 u2 u3).setCell ⟨b + 1, 0, none⟩ u4).setCell ⟨b + 2, 0, none⟩ u5) := by
  have h0 : b ≤ b ∧ b ≤ b + 2 := by omega
  have h1 : b ≤ b + 1 ∧ b + 1 ≤ b + 2 := by omega
  have h2 : b ≤ b + 2 ∧ b + 2 ≤ b + 2 := by omega
  exact (((((Kept.refl _ w).setCell (p := ⟨b, 0, none⟩) h0 u0).setCell (p := ⟨b, 1, none⟩) h0 u1).setCell (p := ⟨b, 2, none⟩) h0 u2).setCell (p := ⟨b, 3, none⟩) h0 u3 |>.setCell (p := ⟨b + 1, 0, none⟩) h1 u4).setCell (p := ⟨b + 2, 0, none⟩) h2 u5

set_option maxHeartbeats 2000000 in
theorem gcatch_bad (w : World) (b : Nat) (v0 v1 v2 v3 v4 v5 : Value) (B : GBoxes w b v0 v1 v2 v3 v4 v5) (c q : Int) :
    CallsD Try.prog 48 #[.pointer (some ⟨b, 0, none⟩), .pointer (some ⟨b + 1, 0, none⟩), .pointer (some ⟨b + 2, 0, none⟩)] (.panicking [{ v := grefusalV c q, recovered := false }]) w fun e u' w' =>
      e = .returned (.tuple #[]) ∧ u' = .panicking [{ v := grefusalV c q, recovered := true }] ∧ GBoxes w' b (.int .i64 0) (.int .i64 0) (.int .i64 0) (.slice none 0 0) (.int .i64 c) (.int .i64 q) ∧ Kept (fun k => b ≤ k ∧ k ≤ b + 2) w w' := by
  refine callsD_of_wpS Try.func48 rfl fun c₀ cs hu => ?_
  unfold grefusalV at hu ⊢
  apply wpS_seq
  apply wpS_region
  simp [wpOpsS, go_sem, recoverD, hu, Try.ntmps48, Exit.thenS, gassert_ref, rep13]
  refine wpS_of_wp ?_
  have hx : (w.alloc (Obj.cells #[.int .i64 c, .int .i64 q] 109)).rowIs w.heap.size 109 2 (fun j => (#[Value.int .i64 c, Value.int .i64 q])[j]?.getD undef) := made_row w #[.int .i64 c, .int .i64 q] 109
  generalize hw1 : w.alloc (Obj.cells #[.int .i64 c, .int .i64 q] 109) = w1 at hx ⊢
  have K1 : Kept0 w w1 := hw1 ▸ Kept.alloc (Kept.refl _ w) _
  clear hw1
  have B1 := B.kept K1 (fun _ _ _ e => e)
  have hxb : b + 2 < w.heap.size := World.rowIs.lt B.q
  generalize w.heap.size = x at *
  have x0 : w1.cell? ⟨x, 0, none⟩ = some (.int .i64 c) := World.rowIs.cell hx (i := 0) (by omega)
  have x1 : w1.cell? ⟨x, 1, none⟩ = some (.int .i64 q) := World.rowIs.cell hx (i := 1) (by omega)
  obtain ⟨z0, z1, z2, z3⟩ := form_cells B1.f
  have y0 := World.rowIs.frozen B1.f 0
  have y1 := World.rowIs.frozen B1.f 1
  have y2 := World.rowIs.frozen B1.f 2
  have y3 := World.rowIs.frozen B1.f 3
  have e4 := B1.e.cell
  have e5 := B1.q.cell
  have f4 := B1.e.frozen
  have f5 := B1.q.frozen
  go_wp2_with fail
  go_region
  all_goals
    refine ⟨rfl, _, rfl, .tuple #[], by simp [results, Try.results48], rfl, rfl, (B1.put _ _ _ _ _ _).kept (Kept.drew (Kept.refl (fun _ => False) _)) (fun _ _ _ e => e), ?_⟩
    exact ((Kept.mono K1 (fun _ _ e => e.elim)).trans (GBoxes.putK w1 b _ _ _ _ _ _)).drew

theorem Bk.noTy {w : World} {base p : Nat} {ev : Value} {nb fb : Nat} {l : List Tm} (h : Bk w base p ev nb fb l) {k : Nat} (hk : BFoot p ev nb fb k) (e : TypeId) (h1 : 85 ≠ e) (h2 : 128 ≠ e) (c : Array Value) (fz : Nat × Nat) : w.heap[k]? ≠ some (Obj.cells c e fz) := by
  rcases hk with rfl | rfl | rfl | he
  · exact rowIs_ne h.bank h1 c fz
  · obtain ⟨D, h1, _⟩ := h.nums
    exact mapIs_ne h1 c _ fz
  · obtain ⟨D, h1, _⟩ := h.fsts
    exact mapIs_ne h1 c _ fz
  · exact ownsRow_ne h.rows he h2 c fz
theorem Bk.kept_new {w w' : World} {base p : Nat} {ev : Value} {nb fb : Nat} {l : List Tm} (h : Bk w base p ev nb fb l) {b : Nat} {v0 v1 v2 v3 v4 v5 : Value} (B : GBoxes w b v0 v1 v2 v3 v4 v5) (K : Kept (fun k => b ≤ k ∧ k ≤ b + 2) w w') : Bk w' base p ev nb fb l := by
  have hn : ∀ k, BFoot p ev nb fb k → ¬ (b ≤ k ∧ k ≤ b + 2) := fun k hk hb => by
    obtain ⟨c0, h0, _⟩ := B.f
    obtain ⟨c1, h1, _⟩ := B.e
    obtain ⟨c2, h2, _⟩ := B.q
    rcases (by omega : k = b ∨ k = b + 1 ∨ k = b + 2) with rfl | rfl | rfl
    · exact h.noTy hk 31 (by decide) (by decide) _ _ h0
    · exact h.noTy hk 59 (by decide) (by decide) _ _ h1
    · exact h.noTy hk 3 (by decide) (by decide) _ _ h2
  have L := h.low
  exact h.blocks (K.block p L.p (hn _ (Or.inl rfl))) (K.block nb L.n (hn _ (Or.inr (Or.inl rfl)))) (K.block fb L.f (hn _ (Or.inr (Or.inr (Or.inl rfl))))) (fun k e => K.block k (L.e k e) (hn _ (Or.inr (Or.inr (Or.inr e)))))
theorem Grew.kept_new {X S : Nat → Prop} {p nb fb : Nat} {a w w' : World} {ea eb : Value} (G : Grew X p nb fb a ea w eb) (K : Kept S w w') (hS : ∀ k, S k → a.heap.size ≤ k) : Grew X p nb fb a ea w' eb :=
  ⟨⟨K.os.trans G.kept.os, K.tape.trans G.kept.tape, K.output.trans G.kept.output, Nat.le_trans G.kept.size K.size, fun k hk hs => (K.block k (Nat.lt_of_lt_of_le hk G.kept.size) (fun e => by have := hS k e; omega)).trans (G.kept.block k hk hs)⟩, G.row⟩

theorem Bk.keptForm {w w' : World} {base p : Nat} {ev : Value} {nb fb : Nat} {l : List Tm} (h : Bk w base p ev nb fb l) {b n : Nat} {f : Nat → Value} (hb : w.rowIs b 31 n f) (K : Kept1 b w w') : Bk w' base p ev nb fb l := by
  obtain ⟨c, hc, _⟩ := hb
  exact h.kept1 K (fun e => h.noForm (Or.inl rfl) c (0, 0) (e ▸ hc)) (fun e => h.noForm (Or.inr (Or.inl rfl)) c (0, 0) (e ▸ hc)) (fun e => h.noForm (Or.inr (Or.inr (Or.inl rfl))) c (0, 0) (e ▸ hc)) (fun e => h.noForm (Or.inr (Or.inr (Or.inr e))) c (0, 0) hc)

/-- What Parse answers: the formula, the error and its place, the terms. -/
def gWhole (s : ByteArray) (l : List Tm) : Fo × Nat × Nat × List Tm := match gp s (6 * s.size + 5) 0 0 (bl s 0) l with
  | .bad c q l' => (.eq 0 0, c, q, l')
  | .ok f k l' => if k < s.size then (.eq 0 0, 2, k, l') else (f, 0, 0, l')
def gParse (s : ByteArray) (l : List Tm) : Fo × Nat × Nat × List Tm := if 400 < s.size then (.eq 0 0, 1, 0, l) else gWhole s l

theorem gboxes_made (w : World) : GBoxes (((w.alloc (.cells #[.int .i64 0, .int .i64 0, .int .i64 0, .slice none 0 0] 31)).alloc (.cells #[.int .i64 0] 59)).alloc (.cells #[.int .i64 0] 3)) w.heap.size (.int .i64 0) (.int .i64 0) (.int .i64 0) (.slice none 0 0) (.int .i64 0) (.int .i64 0) := by
  have one : ∀ (w : World) (v : Value) (ty : TypeId), Box (w.alloc (.cells #[v] ty)) w.heap.size ty v := fun w v ty => World.rowIs.congr (made_row w #[v] ty) (fun j hj => by
    have : j = 0 := by simp at hj; omega
    subst this; rfl)
  have keep : ∀ {w : World} {b n : Nat} {f : Nat → Value} {ty : TypeId} (o : Obj), w.rowIs b ty n f → (w.alloc o).rowIs b ty n f := fun {w b n f ty} o h => h.of_block ((Kept.alloc (Kept.refl (fun _ => False) w) o).block b (World.rowIs.lt h) (fun e => e))
  have s1 : (w.alloc (.cells #[.int .i64 0, .int .i64 0, .int .i64 0, .slice none 0 0] 31)).heap.size = w.heap.size + 1 := by simp
  have s2 : ((w.alloc (.cells #[.int .i64 0, .int .i64 0, .int .i64 0, .slice none 0 0] 31)).alloc (.cells #[.int .i64 0] 59)).heap.size = w.heap.size + 2 := by simp
  exact ⟨keep _ (keep _ (made_form w _ _ _ _)), keep _ (s1 ▸ one _ (.int .i64 0) 59), s2 ▸ one _ (.int .i64 0) 3⟩

set_option maxRecDepth 100000 in
set_option maxHeartbeats 2000000 in
theorem gwhole_in (w : World) (base r p : Nat) (ev : Value) (nb fb : Nat) (s : ByteArray) (l : List Tm) (h : PB w base r p ev nb fb s 0 0 l) :
    Calls Try.prog 36 #[.pointer (some ⟨r, 0, none⟩)] w fun e w' => ∃ v, e = .returned (.tuple #[v, .int .i64 ((gWhole s l).2.1 : Int), .int .i64 ((gWhole s l).2.2.1 : Int)]) ∧ FVal w.heap.size w' v (gWhole s l).1 ∧
      ∃ ev', Bk w' base p ev' nb fb (gWhole s l).2.2.2 ∧ Grew (fun k => k = r) p nb fb w ev w' ev' ∧ (gWhole s l).2.2.2.length ≤ 150 := by
  have hmf : ∀ (fn : Fn) (first cap : Array Value) (w : World), (Instr.makeFunc fn first cap).run Try.prog w = .ok (.func fn first cap) w := fun _ _ _ _ => rfl
  have hsm := h.lp.small
  have BM := gboxes_made w
  have K3 : Kept0 w (((w.alloc (.cells #[.int .i64 0, .int .i64 0, .int .i64 0, .slice none 0 0] 31)).alloc (.cells #[.int .i64 0] 59)).alloc (.cells #[.int .i64 0] 3)) := ((Kept.refl _ w).alloc _ |>.alloc _).alloc _
  have S3 : (((w.alloc (.cells #[.int .i64 0, .int .i64 0, .int .i64 0, .slice none 0 0] 31)).alloc (.cells #[.int .i64 0] 59)).alloc (.cells #[.int .i64 0] 3)).heap.size = w.heap.size + 3 := by simp
  have P3 := h.kept0 K3
  have L := h.bk.low
  have hrb := h.lp.row.lt
  go_enter_defers Try.func36, Try.ntmps36
  have hbl := bl_le (s := s) (i := 0) (by omega)
  have CB : Hid (∀ W ev', Grew (fun k => k = r) p nb fb (((w.alloc (.cells #[.int .i64 0, .int .i64 0, .int .i64 0, .slice none 0 0] 31)).alloc (.cells #[.int .i64 0] 59)).alloc (.cells #[.int .i64 0] 3)) ev W ev' → GBoxes W w.heap.size (.int .i64 0) (.int .i64 0) (.int .i64 0) (.slice none 0 0) (.int .i64 0) (.int .i64 0)) := fun W ev' G => BM.kept G.kept (fun k h1 h2 hk => by
    rcases hk with e | e | e | e | e
    · omega
    · have := L.p; omega
    · have := L.n; omega
    · have := L.f; omega
    · have := L.e k e; omega)
  have BL := gblanks_in _ r _ s 0 0 P3.1.lp
  have C4 : Hid (∀ W, PB W base r p ev nb fb s (bl s 0) 0 l → _) := fun W P => (at_alls (6 * s.size + 5)).1 W base r p ev nb fb s (bl s 0) 0 l P (by omega) (by omega)
  have HW : Hid (gWhole s l = _) := gWhole.eq_1 s l
  go_wp2_with fail
  rw [show w.heap.size + 1 + 1 = w.heap.size + 2 from rfl]
  generalize ((w.alloc (.cells #[.int .i64 0, .int .i64 0, .int .i64 0, .slice none 0 0] 31)).alloc (.cells #[.int .i64 0] 59)).alloc (.cells #[.int .i64 0] 3) = w3 at BM K3 S3 P3 CB BL ⊢
  refine BL.mono ?_
  rintro e w4 ⟨rfl, L4, K4⟩
  have P4 := P3.1.read K4 L4
  have F4 := C4.out w4 P4.1
  clear C4 BL
  cases hg : gp s (6 * s.size + 5) 0 0 (bl s 0) l with
  | bad c q l' =>
    rw [hg] at F4 HW
    go_wp2_with (first | (go_at_call 50; refine F4.mono ?_; rintro e w5 ⟨rfl, ev5, k5, d5, P5, G5⟩))
    have B5 := CB.out w5 ev5 (P4.2.trans G5)
    refine leaves_cons (f := 48) (args := #[.pointer (some ⟨w.heap.size, 0, none⟩), .pointer (some ⟨w.heap.size + 1, 0, none⟩), .pointer (some ⟨w.heap.size + 2, 0, none⟩)]) (by simp) (by simp [go_sem]) ?_
    refine (gcatch_bad w5 w.heap.size _ _ _ _ _ _ B5 c q).mono ?_
    rintro e u' w9 ⟨rfl, rfl, B9, K9⟩
    obtain ⟨z0, z1, z2, z3⟩ := form_cells B9.f
    have z4 := B9.e.cell
    have z5 := B9.q.cell
    refine ⟨.tuple #[.agg #[.int .i64 0, .int .i64 0, .int .i64 0, .slice none 0 0], .int .i64 (c : Int), .int .i64 (q : Int)], ?_, ?_⟩
    · simp [results, Try.results36, go_sem, z0, z1, z2, z3, z4, z5]
    · rw [HW.out]
      exact ⟨_, rfl, FVal.eq _ _ _ _, ev5, P5.bk.kept_new B5 K9, Grew.kept_new ((P3.2.trans P4.2).trans G5) K9 (fun k hk => hk.1), P5.few⟩
  | ok f0 k l' =>
    rw [hg] at F4 HW
    go_wp2_with (first | (go_at_call 50; refine F4.mono ?_; rintro e w5 ⟨v5, rfl, V5, ev5, P5, G5⟩; obtain ⟨op5, x5, y5, a5, n5, cap5, rfl⟩ := V5.form; have B5 := CB.out w5 ev5 (P4.2.trans G5); obtain ⟨z0, z1, z2, z3⟩ := form_cells B5.f; have y0 := World.rowIs.frozen B5.f 0; have y1 := World.rowIs.frozen B5.f 1; have y2 := World.rowIs.frozen B5.f 2; have y3 := World.rowIs.frozen B5.f 3))
    have P6 := P5.put4 B5.f (.int .i64 op5) (.int .i64 x5) (.int .i64 y5) (.slice a5 n5 cap5)
    have B6 := B5.putF (.int .i64 op5) (.int .i64 x5) (.int .i64 y5) (.slice a5 n5 cap5)
    have hb3 : w.heap.size + 3 ≤ w4.heap.size := by have := P4.2.kept.size; omega
    have V6 : FVal (w.heap.size + 3) _ _ _ := (V5.mono hb3).keep (put_keep (w := w5) (by omega : w.heap.size < w.heap.size + 3) (.int .i64 op5) (.int .i64 x5) (.int .i64 y5) (.slice a5 n5 cap5))
    have G6 := ((P3.2.trans P4.2).trans G5).put4 (Nat.le_refl w.heap.size) (.int .i64 op5) (.int .i64 x5) (.int .i64 y5) (.slice a5 n5 cap5)
    unfold put4 at P6 B6 V6 G6
    clear z0 z1 z2 z3 y0 y1 y2 y3 F4 CB BM
    generalize ((((w5).setCell ⟨w.heap.size, 0, none⟩ (.int .i64 op5)).setCell ⟨w.heap.size, 1, none⟩ (.int .i64 x5)).setCell ⟨w.heap.size, 2, none⟩ (.int .i64 y5)).setCell ⟨w.heap.size, 3, none⟩ (.slice a5 n5 cap5) = w6 at P6 B6 V6 G6 ⊢
    have c1 := P6.lp.c1
    have c2 := P6.lp.c2
    have hk := P6.lp.le
    by_cases hks : k < s.size
    · have d1 : decide ((k : Int) < s.size) = true := decide_eq_true (by omega)
      rw [if_pos hks] at HW
      go_quiet (fail)
      have c2' : (w6.drewN nq).cell? ⟨r, 2, none⟩ = some (.int .i64 (k : Int)) := c2
      go_wp2_with (go_at_call 51; refine (grefuse_any _ _ _).mono ?_; rintro e w7 ⟨rfl, rfl⟩)
      have B7 : GBoxes (w6.drewN nq) w.heap.size _ _ _ _ _ _ := B6.kept (Kept.drewN (Kept.refl (fun _ => False) w6) nq) (fun _ _ _ e => e)
      refine leaves_cons (f := 48) (args := #[.pointer (some ⟨w.heap.size, 0, none⟩), .pointer (some ⟨w.heap.size + 1, 0, none⟩), .pointer (some ⟨w.heap.size + 2, 0, none⟩)]) (by simp) (by simp [go_sem]) ?_
      refine (gcatch_bad (w6.drewN nq) w.heap.size _ _ _ _ _ _ B7 2 k).mono ?_
      rintro e u' w9 ⟨rfl, rfl, B9, K9⟩
      obtain ⟨z0, z1, z2, z3⟩ := form_cells B9.f
      have z4 := B9.e.cell
      have z5 := B9.q.cell
      refine ⟨.tuple #[.agg #[.int .i64 0, .int .i64 0, .int .i64 0, .slice none 0 0], .int .i64 2, .int .i64 (k : Int)], ?_, ?_⟩
      · simp [results, Try.results36, go_sem, z0, z1, z2, z3, z4, z5]
      · rw [HW.out]
        exact ⟨_, rfl, FVal.eq _ _ _ _, ev5, (P6.drewN nq).bk.kept_new B7 K9, Grew.kept_new (G6.drewN nq) K9 (fun k hk => hk.1), P5.few⟩
    · have d1 : decide ((k : Int) < s.size) = false := decide_eq_false (by omega)
      rw [if_neg hks] at HW
      go_quiet (fail)
      have B7 : GBoxes (w6.drewN nq) w.heap.size _ _ _ _ _ _ := B6.kept (Kept.drewN (Kept.refl (fun _ => False) w6) nq) (fun _ _ _ e => e)
      have P7 := P6.drewN nq
      have G7 := G6.drewN nq
      have V7 := V6.keep (show FKeep (w.heap.size + 3) w6 (w6.drewN nq) from fun _ _ _ _ hh => hh)
      clear B6 P6 G6 V6 c1 c2
      generalize w6.drewN nq = w7 at *
      obtain ⟨z0, z1, z2, z3⟩ := form_cells B7.f
      have g0 := World.rowIs.frozen B7.f 0
      have g1 := World.rowIs.frozen B7.f 1
      have g2 := World.rowIs.frozen B7.f 2
      have g3 := World.rowIs.frozen B7.f 3
      have z4 := B7.e.cell
      have z5 := B7.q.cell
      have g4 := B7.e.frozen
      have g5 := B7.q.frozen
      go_wp2_with fail
      have B8 := B7.put (.int .i64 op5) (.int .i64 x5) (.int .i64 y5) (.slice a5 n5 cap5) (.int .i64 0) (.int .i64 0)
      have K8 := GBoxes.putK w7 w.heap.size (.int .i64 op5) (.int .i64 x5) (.int .i64 y5) (.slice a5 n5 cap5) (.int .i64 0) (.int .i64 0)
      unfold put4 at B8 K8
      clear z0 z1 z2 z3 z4 z5 g0 g1 g2 g3 g4 g5
      generalize ((((((w7).setCell ⟨w.heap.size, 0, none⟩ (.int .i64 op5)).setCell ⟨w.heap.size, 1, none⟩ (.int .i64 x5)).setCell ⟨w.heap.size, 2, none⟩ (.int .i64 y5)).setCell ⟨w.heap.size, 3, none⟩ (.slice a5 n5 cap5)).setCell ⟨w.heap.size + 1, 0, none⟩ (.int .i64 0)).setCell ⟨w.heap.size + 2, 0, none⟩ (.int .i64 0) = w8 at B8 K8 ⊢
      have V8 : FVal (w.heap.size + 3) w8 _ _ := V7.keep (fun k c fz hk hh => (K8.block k (Array.getElem?_eq_some_iff.1 hh).1 (fun e => by have h1 : w.heap.size + 3 ≤ k := hk; omega)).trans hh)
      have E8 := P7.bk.kept_new B7 K8
      have G8 := Grew.kept_new G7 K8 (fun k hk => hk.1)
      refine leaves_cons (f := 48) (args := #[.pointer (some ⟨w.heap.size, 0, none⟩), .pointer (some ⟨w.heap.size + 1, 0, none⟩), .pointer (some ⟨w.heap.size + 2, 0, none⟩)]) (by simp) (by simp [go_sem]) ?_
      refine (gcatch_idle _ _ _ w8).mono ?_
      rintro e u' w9 ⟨rfl, rfl, rfl⟩
      have K9 : Kept0 w8 (w8.alloc (.cells #[.int .i64 0, .int .i64 0] 109)) := Kept.alloc (Kept.refl _ w8) _
      have B9 := B8.kept K9 (fun _ _ _ e => e)
      have V9 := V8.keep (FKeep.kept0 K9 _)
      have E9 := E8.kept0 K9
      have G9 := Grew.kept_new G8 K9 (fun _ e => e.elim)
      generalize w8.alloc (.cells #[.int .i64 0, .int .i64 0] 109) = w9 at B9 V9 E9 G9 ⊢
      obtain ⟨z0, z1, z2, z3⟩ := form_cells B9.f
      have z4 := B9.e.cell
      have z5 := B9.q.cell
      refine ⟨.tuple #[.agg #[.int .i64 op5, .int .i64 x5, .int .i64 y5, .slice a5 n5 cap5], .int .i64 0, .int .i64 0], ?_, ?_⟩
      · simp [results, Try.results36, go_sem, z0, z1, z2, z3, z4, z5]
      · rw [HW.out]
        exact ⟨_, rfl, V9.mono (by omega), ev5, E9, G9, P5.few⟩

theorem made_pb (w : World) (base p : Nat) (ev : Value) (nb fb : Nat) (l : List Tm) (h : Bk w base p ev nb fb l) (s : ByteArray) (hs : s.size ≤ 400) (hbase : base ≤ w.heap.size) (hf : l.length ≤ 150) :
    PB (w.alloc (.cells #[.pointer (some ⟨p, 0, none⟩), .string s, .int .i64 0, .int .u64 0] 87)) base w.heap.size p ev nb fb s 0 0 l := by
  have K : Kept0 w (w.alloc (.cells #[.pointer (some ⟨p, 0, none⟩), .string s, .int .i64 0, .int .u64 0] 87)) := Kept.alloc (Kept.refl _ w) _
  have L := h.low
  have h1 := L.p
  have h2 := L.n
  have h3 := L.f
  exact ⟨made_parser w _ s 0 0 (Nat.zero_le _) hs, h.kept0 K, by omega, by omega, by omega, fun e => by have := L.e _ e; omega, Nat.le_trans hbase K.size, hf⟩

set_option maxRecDepth 100000 in
set_option maxHeartbeats 1000000 in
theorem gParse_in (w : World) (base p : Nat) (ev : Value) (nb fb : Nat) (l : List Tm) (h : Bk w base p ev nb fb l) (hl : l.length ≤ 150) (hbase : base ≤ w.heap.size) (s : ByteArray) :
    Calls Try.prog 24 #[.pointer (some ⟨p, 0, none⟩), .string s] w fun e w' => ∃ v, e = .returned (.tuple #[v, .int .i64 ((gParse s l).2.1 : Int), .int .i64 ((gParse s l).2.2.1 : Int)]) ∧ FVal w.heap.size w' v (gParse s l).1 ∧
      ∃ ev', Bk w' base p ev' nb fb (gParse s l).2.2.2 ∧ Kept (BFoot p ev nb fb) w w' ∧ (ev'.ownBlock = ev.ownBlock ∨ ∀ k, ev'.ownBlock = some k → w.heap.size ≤ k) ∧ (gParse s l).2.2.2.length ≤ 150 := by
  by_cases hs : 400 < s.size
  · have hp : gParse s l = (.eq 0 0, 1, 0, l) := by simp [gParse, hs]
    have d : (400 : Int) < (s.size : Int) := by omega
    go_enter Try.func24, Try.ntmps24
    go_wp2_with fail
    have F1 := made_form w (.int .i64 0) (.int .i64 0) (.int .i64 0) (.slice none 0 0)
    have K1 : Kept0 w (w.alloc (.cells #[.int .i64 0, .int .i64 0, .int .i64 0, .slice none 0 0] 31)) := Kept.alloc (Kept.refl _ w) _
    generalize w.alloc (.cells #[.int .i64 0, .int .i64 0, .int .i64 0, .slice none 0 0] 31) = w1 at F1 K1 ⊢
    obtain ⟨z0, z1, z2, z3⟩ := form_cells F1
    refine ⟨rfl, .tuple #[.agg #[.int .i64 0, .int .i64 0, .int .i64 0, .slice none 0 0], .int .i64 1, .int .i64 0], by simp [results, Try.results24, go_sem, z0, z1, z2, z3], ?_⟩
    rw [hp]
    exact ⟨_, rfl, FVal.eq _ _ _ _, ev, h.kept0 K1, Kept.mono K1 (fun _ _ e => e.elim), Or.inl rfl, hl⟩
  · have hp : gParse s l = gWhole s l := by simp [gParse, hs]
    have d : ¬ (400 : Int) < (s.size : Int) := by omega
    have K1 : Kept0 w (w.alloc (.cells #[.int .i64 0, .int .i64 0, .int .i64 0, .slice none 0 0] 31)) := Kept.alloc (Kept.refl _ w) _
    have hz1 : (w.alloc (.cells #[.int .i64 0, .int .i64 0, .int .i64 0, .slice none 0 0] 31)).heap.size = w.heap.size + 1 := by simp
    have F1 := made_form w (.int .i64 0) (.int .i64 0) (.int .i64 0) (.slice none 0 0)
    have P2 := made_pb (w.alloc (.cells #[.int .i64 0, .int .i64 0, .int .i64 0, .slice none 0 0] 31)) base p ev nb fb l (h.kept0 K1) s (by omega) (by omega) hl
    have F2 := rowIs_keep (FKeep.alloc 0 (w.alloc (.cells #[.int .i64 0, .int .i64 0, .int .i64 0, .slice none 0 0] 31)) (.cells #[.pointer (some ⟨p, 0, none⟩), .string s, .int .i64 0, .int .u64 0] 87)) (Nat.zero_le _) F1
    have K2 : Kept0 w ((w.alloc (.cells #[.int .i64 0, .int .i64 0, .int .i64 0, .slice none 0 0] 31)).alloc (.cells #[.pointer (some ⟨p, 0, none⟩), .string s, .int .i64 0, .int .u64 0] 87)) := K1.alloc _
    have hz2 : ((w.alloc (.cells #[.int .i64 0, .int .i64 0, .int .i64 0, .slice none 0 0] 31)).alloc (.cells #[.pointer (some ⟨p, 0, none⟩), .string s, .int .i64 0, .int .u64 0] 87)).heap.size = w.heap.size + 2 := by simp
    rw [hz1] at P2
    go_enter Try.func24, Try.ntmps24
    have WH := gwhole_in _ base (w.heap.size + 1) p ev nb fb s l P2
    go_wp2_with fail
    generalize (w.alloc (.cells #[.int .i64 0, .int .i64 0, .int .i64 0, .slice none 0 0] 31)).alloc (.cells #[.pointer (some ⟨p, 0, none⟩), .string s, .int .i64 0, .int .u64 0] 87) = w2 at P2 F2 K2 WH hz2 ⊢
    refine WH.mono ?_
    rintro e w5 ⟨v, rfl, V5, ev5, B5, G5, hfew⟩
    obtain ⟨op5, x5, y5, a5, n5, cap5, rfl⟩ := V5.form
    have F5 := rowIs_keep (P2.fkeep G5 0) (Nat.zero_le _) F2
    obtain ⟨z0, z1, z2, z3⟩ := form_cells F5
    have g0 := World.rowIs.frozen F5 0
    have g1 := World.rowIs.frozen F5 1
    have g2 := World.rowIs.frozen F5 2
    have g3 := World.rowIs.frozen F5 3
    clear WH
    go_wp2_with fail
    have F6 := put_form F5 (.int .i64 op5) (.int .i64 x5) (.int .i64 y5) (.slice a5 n5 cap5)
    have K6 : Kept1 w.heap.size w5 (put4 w5 w.heap.size (.int .i64 op5) (.int .i64 x5) (.int .i64 y5) (.slice a5 n5 cap5)) := Kept1.set (Kept1.set (Kept1.set (Kept1.set (Kept.refl _ w5) 0 _) 1 _) 2 _) 3 _
    have V6 := (V5.mono (Nat.le_of_eq hz2.symm)).keep (put_keep (w := w5) (by omega : w.heap.size < w.heap.size + 2) (.int .i64 op5) (.int .i64 x5) (.int .i64 y5) (.slice a5 n5 cap5))
    have B6 := B5.keptForm F5 K6
    unfold put4 at F6 K6 V6 B6
    clear z0 z1 z2 z3 g0 g1 g2 g3
    generalize ((((w5).setCell ⟨w.heap.size, 0, none⟩ (.int .i64 op5)).setCell ⟨w.heap.size, 1, none⟩ (.int .i64 x5)).setCell ⟨w.heap.size, 2, none⟩ (.int .i64 y5)).setCell ⟨w.heap.size, 3, none⟩ (.slice a5 n5 cap5) = w6 at F6 K6 V6 B6 ⊢
    obtain ⟨z0, z1, z2, z3⟩ := form_cells F6
    have G6 := Grew.kept_new (Grew.trans (⟨Kept.mono K2 (fun _ _ e => e.elim), Or.inl rfl⟩ : Grew (fun k => k = w.heap.size + 1) p nb fb w ev w2 ev) G5) K6 (fun k hk => Nat.le_of_eq hk.symm)
    refine ⟨rfl, .tuple #[.agg #[.int .i64 op5, .int .i64 x5, .int .i64 y5, .slice a5 n5 cap5], .int .i64 ((gWhole s l).2.1 : Int), .int .i64 ((gWhole s l).2.2.1 : Int)], by simp [results, Try.results24, go_sem, z0, z1, z2, z3], ?_⟩
    rw [hp]
    exact ⟨_, rfl, V6.mono (by omega), ev5, B6, Kept.mono G6.kept (fun k hk e => e.elim (fun e => by omega) id), G6.row, hfew⟩

end Go.Proofs.Ytinphcnknionmab
