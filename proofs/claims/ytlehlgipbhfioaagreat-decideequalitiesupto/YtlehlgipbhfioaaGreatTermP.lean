/- Package term: whole's deferred function. -/
import Derived.Test.YtlehlgipbhfioaaGreatTermO
import Derived.Recover
namespace Go.Proofs.YtlehlgipbhfioaaGreat
open Go.RowKit Go.Maps

/-- A box of one cell. -/
abbrev Box (w : World) (b : Nat) (ty : TypeId) (v : Value) : Prop := w.rowIs b ty 1 (fun _ => v)

theorem Box.cell {w : World} {b : Nat} {ty : TypeId} {v : Value} (h : Box w b ty v) : w.cell? ⟨b, 0, none⟩ = some v := World.rowIs.cell h (i := 0) (by omega)

theorem assert_nil (w : World) : (Instr.typeAssert .nilIface 20 134 true).run Tryz.prog w = .ok (.tuple #[.agg #[.int .i64 0, .int .i64 0], .bool false]) w := by kernel_rfl
theorem assert_ref (w : World) (v : Value) : (Instr.typeAssert (.iface 134 v) 20 134 true).run Tryz.prog w = .ok (.tuple #[v, .bool true]) w := by kernel_rfl

theorem rep18 : Array.replicate 18 undef = #[undef, undef, undef, undef, undef, undef, undef, undef, undef, undef, undef, undef, undef, undef, undef, undef, undef, undef] := rfl

set_option maxHeartbeats 1000000 in
theorem catch_idle (a1 a2 a3 a4 a5 : Value) (w : World) :
    CallsD Tryz.prog 56 #[a1, a2, a3, a4, a5] .returning w fun e u' w' => e = .returned (.tuple #[]) ∧ u' = .returning ∧ w' = w.alloc (.cells #[.int .i64 0, .int .i64 0] 134) := by
  refine callsD_of_wpS Tryz.func56 rfl fun c₀ cs hu => ?_
  apply wpS_seq
  apply wpS_region
  simp [wpOpsS, go_sem, recoverD, hu, Tryz.ntmps56, Exit.thenS, assert_nil, rep18]
  refine wpS_of_wp ?_
  go_wp2
  cases c₀
  simp_all [bodyPostS, results, Tryz.results56]

theorem Box.frozen {w : World} {b : Nat} {ty : TypeId} {v : Value} (h : Box w b ty v) : w.frozen? ⟨b, 0, none⟩ = false := World.rowIs.frozen h 0
theorem Box.of_block {w w' : World} {b : Nat} {ty : TypeId} {v : Value} (h : Box w b ty v) (e : w'.heap[b]? = w.heap[b]?) : Box w' b ty v := World.rowIs.of_block h e
theorem Box.set {w : World} {b : Nat} {ty : TypeId} {v : Value} (h : Box w b ty v) (u : Value) : Box (w.setCell ⟨b, 0, none⟩ u) b ty u :=
  World.rowIs.congr (World.rowIs.set h 0 u) (fun j hj => by simp; omega)
theorem Box.other {w : World} {b c : Nat} {ty : TypeId} {v : Value} (h : Box w b ty v) (hbc : b ≠ c) (o : Nat) (u : Value) : Box (w.setCell ⟨c, o, none⟩ u) b ty v :=
  h.of_block ((Kept1.set (Kept.refl _ w) o u).block b (World.rowIs.lt h) hbc)

/-- whole's five boxes, at b and behind it. -/
structure Boxes (w : World) (b r : Nat) (n0 : Nat) (v2 v3 v4 : Value) : Prop where
  b1 : Box w b 132 (.pointer (some ⟨r, 0, none⟩))
  b2 : Box w (b + 1) 3 v2
  b3 : Box w (b + 2) 37 v3
  b4 : Box w (b + 3) 3 v4
  b5 : Box w (b + 4) 3 (.int .i64 (n0 : Int))

theorem Boxes.kept {w w' : World} {S : Nat → Prop} {b r n0 : Nat} {v2 v3 v4 : Value} (h : Boxes w b r n0 v2 v3 v4) (K : Kept S w w') (hS : ∀ k, b ≤ k → k ≤ b + 4 → ¬ S k) : Boxes w' b r n0 v2 v3 v4 :=
  ⟨h.b1.of_block (K.block _ (World.rowIs.lt h.b1) (hS _ (by omega) (by omega))), h.b2.of_block (K.block _ (World.rowIs.lt h.b2) (hS _ (by omega) (by omega))), h.b3.of_block (K.block _ (World.rowIs.lt h.b3) (hS _ (by omega) (by omega))), h.b4.of_block (K.block _ (World.rowIs.lt h.b4) (hS _ (by omega) (by omega))), h.b5.of_block (K.block _ (World.rowIs.lt h.b5) (hS _ (by omega) (by omega)))⟩
theorem Boxes.put {w : World} {b r n0 : Nat} {v2 v3 v4 : Value} (h : Boxes w b r n0 v2 v3 v4) (u2 u3 u4 : Value) : Boxes (((w.setCell ⟨b + 1, 0, none⟩ u2).setCell ⟨b + 2, 0, none⟩ u3).setCell ⟨b + 3, 0, none⟩ u4) b r n0 u2 u3 u4 :=
  ⟨((h.b1.other (by omega) _ _).other (by omega) _ _).other (by omega) _ _, ((h.b2.set u2).other (by omega) _ _).other (by omega) _ _, ((h.b3.other (by omega) _ _).set u3).other (by omega) _ _, ((h.b4.other (by omega) _ _).other (by omega) _ _).set u4, ((h.b5.other (by omega) _ _).other (by omega) _ _).other (by omega) _ _⟩

/-- The bank and the reader lie apart from the boxes. -/
structure Apart (b r p nb fb : Nat) (ev : Value) : Prop where
  r : r < b
  p : p < b
  n : nb < b
  f : fb < b
  e : ∀ k, ev.ownBlock = some k → k < b ∨ b + 4 < k

theorem Apart.foot {b r p nb fb : Nat} {ev : Value} (h : Apart b r p nb fb ev) : ∀ k, b ≤ k → k ≤ b + 4 → ¬ BFoot p ev nb fb k := by
  intro k h1 h2 hk
  have := h.p
  have := h.n
  have := h.f
  rcases hk with e | e | e | e
  · omega
  · omega
  · omega
  · have := h.e k e; omega

def CFoot (p : Nat) (ev : Value) (nb fb b k : Nat) : Prop := BFoot p ev nb fb k ∨ (b ≤ k ∧ k ≤ b + 4)

set_option maxHeartbeats 2000000 in
theorem catch_bad (w : World) (base b r p : Nat) (ev : Value) (nb fb : Nat) (s : ByteArray) (i : Nat) (l rest : List Tm) (h : RB w base r p ev nb fb s i (l ++ rest)) (v2 v3 v4 : Value) (B : Boxes w b r l.length v2 v3 v4) (A : Apart b r p nb fb ev) (c q : Int) :
    CallsD Tryz.prog 56 #[.pointer (some ⟨b, 0, none⟩), .pointer (some ⟨b + 4, 0, none⟩), .pointer (some ⟨b + 1, 0, none⟩), .pointer (some ⟨b + 2, 0, none⟩), .pointer (some ⟨b + 3, 0, none⟩)] (.panicking [{ v := refusalV c q, recovered := false }]) w fun e u' w' =>
      e = .returned (.tuple #[]) ∧ u' = .panicking [{ v := refusalV c q, recovered := true }] ∧ ∃ ev', Bk w' base p ev' nb fb l ∧ ev'.ownBlock = ev.ownBlock ∧ Boxes w' b r l.length (.int .i64 0) (.int .i64 c) (.int .i64 q) ∧ Kept (CFoot p ev nb fb b) w w' := by
  refine callsD_of_wpS Tryz.func56 rfl fun c₀ cs hu => ?_
  unfold refusalV at hu ⊢
  apply wpS_seq
  apply wpS_region
  simp [wpOpsS, go_sem, recoverD, hu, Tryz.ntmps56, Exit.thenS, assert_ref, rep18]
  refine wpS_of_wp ?_
  have hx : (w.alloc (Obj.cells #[.int .i64 c, .int .i64 q] 134)).rowIs w.heap.size 134 2 (fun j => (#[Value.int .i64 c, Value.int .i64 q])[j]?.getD undef) := made_row w #[.int .i64 c, .int .i64 q] 134
  generalize hw1 : w.alloc (Obj.cells #[.int .i64 c, .int .i64 q] 134) = w1 at hx ⊢
  have K1 : Kept0 w w1 := hw1 ▸ Kept.alloc (Kept.refl _ w) _
  clear hw1
  have R1 := (h.kept0 K1).1
  have B1 := B.kept K1 (fun _ _ _ e => e)
  have hxb : b + 4 < w.heap.size := World.rowIs.lt B.b5
  have hel : ∀ k, ev.ownBlock = some k → k < w.heap.size := fun k e => by
    rcases h.bk.rows.2 with ⟨e2, h0⟩ | ⟨b, cap, cur, e2, hb, e2h⟩
    · rw [e2] at e; simp [Value.ownBlock] at e
    · rw [e2] at e
      simp [Value.ownBlock] at e
      have := right_lt e2h.1
      omega
  generalize w.heap.size = x at *
  have rc0 := R1.rd.c0
  have bb1 := B1.b1.cell
  have bb5 := B1.b5.cell
  have TAKE := fun m => takeOut_in (w1.drewN m) base p ev nb fb l rest (R1.bk.drewN m)
  go_wp2_with fail
  go_region_with (go_at_call 57; refine (TAKE _).mono ?_; rintro e w2 ⟨rfl, ev2, B2, E2, K2⟩)
  all_goals
    have Bx2 := (B1.kept (Kept.drewN (Kept.refl (fun _ => False) w1) _) (fun _ _ _ e => e)).kept K2 A.foot
    have hx2 := World.rowIs.of_block hx (K2.block x (World.rowIs.lt hx) (fun e => by
      have := A.p
      have := A.n
      have := A.f
      rcases e with e | e | e | e
      · omega
      · omega
      · omega
      · have := hel x e; omega))
    have K3 : Kept (CFoot p ev nb fb b) w w2 := Kept.trans (Kept.drewN (Kept.mono K1 (fun _ _ e => e.elim)) _) (Kept.mono K2 (fun _ _ e => Or.inl e))
    clear TAKE rc0 bb1 bb5 K2 hx B1 R1
    have x0 : w2.cell? ⟨x, 0, none⟩ = some (.int .i64 c) := World.rowIs.cell hx2 (i := 0) (by omega)
    have x1 : w2.cell? ⟨x, 1, none⟩ = some (.int .i64 q) := World.rowIs.cell hx2 (i := 1) (by omega)
    have e2 := Bx2.b2.cell
    have e3 := Bx2.b3.cell
    have e4 := Bx2.b4.cell
    have f2 := Bx2.b2.frozen
    have f3 := Bx2.b3.frozen
    have f4 := Bx2.b4.frozen
    go_wp2_with fail
    go_region
    all_goals
      have hp := A.p
      have hn := A.n
      have hf := A.f
      have hne : ∀ k, b ≤ k → k ≤ b + 4 → ev2.ownBlock ≠ some k := fun k h1 h2 e => by
        have := A.e k (E2 ▸ e)
        omega
      refine ⟨rfl, _, rfl, .tuple #[], by simp [results, Tryz.results56], rfl, rfl, ev2, ?_, E2, (Bx2.put _ _ _).kept (Kept.drew (Kept.refl (fun _ => False) _)) (fun _ _ _ e => e), ?_⟩
      · have k1 : Kept1 (b + 1) w2 (w2.setCell ⟨b + 1, 0, none⟩ (.int .i64 0)) := Kept1.set (Kept.refl _ w2) _ _
        have k2 := Kept1.set (nb := b + 2) (Kept.refl _ (w2.setCell ⟨b + 1, 0, none⟩ (.int .i64 0))) 0 (.int .i64 c)
        have k3 := Kept1.set (nb := b + 3) (Kept.refl _ ((w2.setCell ⟨b + 1, 0, none⟩ (.int .i64 0)).setCell ⟨b + 2, 0, none⟩ (.int .i64 c))) 0 (.int .i64 q)
        exact (((B2.kept1 k1 (by omega) (by omega) (by omega) (hne _ (by omega) (by omega))).kept1 k2 (by omega) (by omega) (by omega) (hne _ (by omega) (by omega))).kept1 k3 (by omega) (by omega) (by omega) (hne _ (by omega) (by omega))).drewN 1
      · exact (Kept.setCell (p := ⟨b + 3, 0, none⟩) (Kept.setCell (p := ⟨b + 2, 0, none⟩) (Kept.setCell (p := ⟨b + 1, 0, none⟩) K3 (Or.inr ⟨by show b ≤ b + 1; omega, by show b + 1 ≤ b + 4; omega⟩) _) (Or.inr ⟨by show b ≤ b + 2; omega, by show b + 2 ≤ b + 4; omega⟩) _) (Or.inr ⟨by show b ≤ b + 3; omega, by show b + 3 ≤ b + 4; omega⟩) _).drew

end Go.Proofs.YtlehlgipbhfioaaGreat
