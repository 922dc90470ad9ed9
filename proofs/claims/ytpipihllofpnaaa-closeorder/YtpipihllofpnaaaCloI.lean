/- Package close: termsOf. -/
import Derived.Test.YtpipihllofpnaaaCloE
import Derived.Test.YtpipihllofpnaaaTermT
namespace Go.Proofs.Ytpipihllofpnaaa
open Go.RowKit Go.Maps

theorem infoTerm : (Try.prog.info? 42).map (fun i => (i.zero, i.size, i.bytes)) = some (some (.agg #[.string ⟨#[]⟩, .slice none 0 0]), 2, 40) := by kernel_rfl

theorem UseIs.of_row {w : World} {base : Nat} {v : Value} {xs : List Nat} (h : w.ownsRow base 3 1 v xs.length (natC xs)) :
    ∃ st : List (Nat × Obj), UseIs st v xs ∧ Sat st w ∧ ∀ x ∈ st, v.ownBlock = some x.1 := by
  by_cases hx : xs = []
  · subst hx
    rcases h.2 with ⟨rfl, _⟩ | ⟨g, cap, cur, rfl, _⟩
    · exact ⟨[], ⟨none, 0, rfl, by simp, .inl rfl⟩, fun x hx => by simp at hx, fun x hx => by simp at hx⟩
    · exact ⟨[], ⟨_, cap, rfl, by simp, .inl rfl⟩, fun x hx => by simp at hx, fun x hx => by simp at hx⟩
  · obtain ⟨x, h1, h2, h3⟩ := UseIs.own h hx
    exact ⟨[x], h1, fun y hy => by simp at hy; subst hy; exact h2, fun y hy => by simp at hy; subst hy; exact h3⟩

/-- The first k terms are filled in. -/
structure Tf (w W : World) (tb : Nat) (l : List Tm) (k : Nat) (av : Nat → Value) (st : List (Nat × Obj)) : Prop where
  row : ∃ f, W.rowIs tb 42 (l.length * 2) f ∧ ∀ j, j < k * 2 → f j = termC l av j
  sat : Sat st W
  far : ∀ x ∈ st, w.heap.size ≤ x.1 ∧ x.1 ≠ tb
  args : ∀ (i : Nat) (t : Tm), i < k → l[i]? = some t → UseIs st (av i) t.args
  kept : Kept0 w W
  tb : w.heap.size ≤ tb

theorem below_kept0 {w w' : World} (h : Below w.heap.size w w') : Kept0 w w' := ⟨h.os, h.tape, h.output, h.size, fun k hk _ => h.block k hk⟩

theorem Tf.step {w wr w2 : World} {tb : Nat} {l : List Tm} {k : Nat} {av : Nat → Value} {st : List (Nat × Obj)} {t : Tm} {v : Value} (T : Tf w wr tb l k av st) (ht : l[k]? = some t) (O2 : w2.ownsRow wr.heap.size 3 1 v t.args.length (argC t.args)) (B2 : Below wr.heap.size wr w2) :
    ∃ st', Tf w ((w2.setCell ⟨tb, k * 2, none⟩ (.string t.name)).setCell ⟨tb, k * 2 + 1, none⟩ v) tb l (k + 1) (fun i => if i = k then v else av i) st' := by
  obtain ⟨st2, u1, u2, u3⟩ := UseIs.of_row (xs := t.args) O2
  obtain ⟨f, R, hf⟩ := T.row
  have hlt := R.lt
  have R2 : w2.rowIs tb 42 (l.length * 2) f := R.of_block (B2.block _ hlt)
  have far2 : ∀ x ∈ st2, wr.heap.size ≤ x.1 := fun x hx => (O2.lt _ (u3 x hx)).1
  have blk : ∀ b, b ≠ tb → ((w2.setCell ⟨tb, k * 2, none⟩ (.string t.name)).setCell ⟨tb, k * 2 + 1, none⟩ v).heap[b]? = w2.heap[b]? := fun b hb => (Below.heap_setCell _ _ _ _ hb).trans (Below.heap_setCell _ _ _ _ hb)
  refine ⟨st ++ st2, ⟨⟨_, (R2.set (k * 2) (.string t.name)).set (k * 2 + 1) v, fun j hj => ?_⟩, fun x hx => ?_, fun x hx => ?_, fun i u hi hu => ?_, ?_, T.tb⟩⟩
  · show (if j = k * 2 + 1 then v else if j = k * 2 then .string t.name else f j) = termC l (fun i => if i = k then v else av i) j
    unfold termC
    by_cases e1 : j = k * 2 + 1
    · subst e1
      have h1 : (k * 2 + 1) % 2 = 1 := by omega
      have h2 : (k * 2 + 1) / 2 = k := by omega
      simp [h1, h2]
    · by_cases e0 : j = k * 2
      · subst e0
        have h1 : k * 2 % 2 = 0 := by omega
        have h2 : k * 2 / 2 = k := by omega
        simp [h2, ht]
      · rw [if_neg e1, if_neg e0, hf j (by omega)]
        unfold termC
        have h3 : j / 2 ≠ k := by omega
        simp [h3]
  · rcases List.mem_append.1 hx with hx | hx
    · have hlx : x.1 < wr.heap.size := (Array.getElem?_eq_some_iff.1 (T.sat x hx)).1
      exact (blk _ (T.far x hx).2).trans ((B2.block _ hlx).trans (T.sat x hx))
    · have := far2 x hx
      exact (blk _ (by omega)).trans (u2 x hx)
  · rcases List.mem_append.1 hx with hx | hx
    · exact T.far x hx
    · have := far2 x hx
      have := T.kept.size
      exact ⟨by omega, by omega⟩
  · by_cases e : i = k
    · subst e
      rw [ht] at hu
      cases hu
      show UseIs _ (if i = i then v else av i) t.args
      rw [if_pos rfl]
      exact u1.mono (fun y hy => List.mem_append_right _ hy)
    · show UseIs _ (if i = k then v else av i) u.args
      rw [if_neg e]
      exact (T.args i u (by omega) hu).mono (fun y hy => List.mem_append_left _ hy)
  · exact Kept.setNew (Kept.setNew (T.kept.trans (below_kept0 B2)) T.tb _) T.tb _

set_option maxHeartbeats 2000000 in
set_option maxRecDepth 100000 in
theorem termsOf_in (w : World) (base p : Nat) (ev : Value) (nb fb : Nat) (l : List Tm) (h : Bk w base p ev nb fb l) :
    Calls Try.prog 88 #[.pointer (some ⟨p, 0, none⟩)] w fun e w' => ∃ tb av st, e = .returned (.slice (some ⟨tb, 0, none⟩) l.length l.length) ∧ Tf w w' tb l l.length av st := by
  have SZ := size_in w base p ev nb fb l h
  have hsm := h.small
  obtain ⟨i0, hi0, hz0, hz1, hz2⟩ := info_parts infoTerm
  obtain ⟨C, hC, hm1⟩ : ∃ C : Array Value, C.size = l.length * 2 ∧ (Instr.makeSlice 142 (.int .i64 (l.length : Int)) (.int .i64 (l.length : Int))).run Try.prog w = .ok (.slice (some ⟨w.heap.size, 0, none⟩) l.length l.length) (w.alloc (.cells C 42)) := by
    have hmk := run_make (P := Try.prog) w 142 42 i0 _ Try.underlying142 hi0 hz0 .i64 .i64 (l.length : Int) (l.length : Int) (by omega) (Int.le_refl _) (by rw [hz2]; omega) (by omega)
    simp only [Int.toNat_natCast] at hmk
    exact ⟨_, by rw [size_madeCells, hz1], hmk⟩
  have R0 := made_row w C 42
  rw [hC] at R0
  have K0 : Kept0 w (w.alloc (.cells C 42)) := Kept.alloc (Kept.refl _ w) _
  clear hi0 hz0 hz1 hz2 hC
  go_enter Try.func88, Try.ntmps88
  go_wp2_with (go_at_call 21; refine SZ.mono ?_; rintro e w9 ⟨rfl, rfl⟩)
  clear hm1 SZ
  generalize w.alloc (.cells C 42) = w1 at *
  go_loopw [10] (fun t10 W => ∃ (k : Nat) (av : Nat → Value) (st : List (Nat × Obj)), k ≤ l.length ∧ t10 = .int .i64 (k : Int) ∧ Tf w W w.heap.size l k av st) (fun t10 _ => l.length - (intOf t10).toNat)
  case atStart => exact ⟨0, fun _ => .slice none 0 0, [], by omega, rfl, ⟨⟨_, R0, fun j hj => by omega⟩, fun x hx => by simp at hx, fun x hx => by simp at hx, fun i t hi => by omega, K0, Nat.le_refl _⟩⟩
  case round =>
    clear R0 K0
    obtain ⟨k, av, st, hk, rfl, T⟩ := hrel
    by_cases hk2 : k < l.length
    · have dk : decide ((k : Int) < (l.length : Int)) = true := decide_eq_true (by omega)
      have ht : l[k]? = some l[k] := List.getElem?_eq_getElem hk2
      have TS := term_some wr base p ev nb fb l (h.kept0 T.kept) k l[k] ht
      obtain ⟨f, R, hf⟩ := T.row
      have CE : ∀ W, Below wr.heap.size wr W → W.rowIs w.heap.size 42 (l.length * 2) f := fun W B => R.of_block (B.block _ R.lt)
      generalize hlk : l[k] = t at *
      go_wp2_with (go_at_call 23; refine TS.mono ?_; rintro e w2 ⟨v, rfl, O2, B2⟩; have R2 := CE w2 B2; have y0 := R2.cell (i := k * 2) (by omega); have y1 := R2.cell (i := k * 2 + 1) (by omega); have f0 := R2.frozen (k * 2); have f1 := R2.frozen (k * 2 + 1); obtain ⟨va, vc, hv⟩ := row_form' O2; subst hv)
      obtain ⟨st', T'⟩ := T.step ht O2 B2
      exact ⟨⟨k + 1, _, st', by omega, by simp, T'⟩, by simp [intOf]; omega⟩
    · have dk : decide ((k : Int) < (l.length : Int)) = false := decide_eq_false (by omega)
      obtain rfl : k = l.length := by omega
      go_wp2_with fail
      go_ret
      exact ⟨_, av, st, rfl, T⟩
