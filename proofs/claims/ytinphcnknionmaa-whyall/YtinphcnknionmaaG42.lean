/- Package close: what stands behind each step of unite. Package close: termsOf. The plain mathematics of package close: the first uses. No Go here. Package close: firstUses. -/
import Derived.Test.YtinphcnknionmaaSCloD
import Derived.Test.YtinphcnknionmaaSCloF
import Derived.Test.YtinphcnknionmaaSCloE
import Derived.Test.YtinphcnknionmaaG26
import Derived.Test.YtinphcnknionmaaG37
import Derived.Test.YtinphcnknionmaaG27
namespace Go.Proofs.Ytinphcnknionmaa
open Go.RowKit Go.Maps

/-- One state is come to from another by steps that can be taken back. -/
inductive Chain (l : List Tm) : Zs → Zs → Prop
  | refl (z : Zs) : Chain l z z
  | like {a b : Zs} (n : Nat) (s : Tm) (bc bx : Nat) (v : Value) : Chain l a b → b.kn s = none → Sk s → Chain l a (likeZ b n s bc bx v)
  | join {a b : Zs} (low high bc bm bo bl : Nat) (jv : Value) (st2 : List (Nat × Obj)) (v bv : Value) : Chain l a b → joins l.length b.g low high = true → low < l.length → UseIs b.st (b.uv low) (b.us low) → Chain l a (joinZ l b low high bc bm bo bl jv st2 v bv)
theorem Chain.trans {l : List Tm} {a b c : Zs} (h : Chain l a b) (k : Chain l b c) : Chain l a c := by
  induction k with
  | refl => exact h
  | like n s bc bx v _ h1 h2 ih => exact .like n s bc bx v ih h1 h2
  | join low high bc bm bo bl jv st2 v bv _ h1 h2 h3 ih => exact .join low high bc bm bo bl jv st2 v bv ih h1 h2 h3

structure Un (w : World) (base : Nat) (l : List Tm) (z : Zs) (P todo : List (Nat × Nat)) (pend : List Nat) : Prop where
  cz : Cz w base l z
  inv : Cc.Inv l P z.g.lo z.us z.kn todo pend
  ms : z.ms + pend.length ≤ l.length + z.t.length * (4 * l.length)
  bs : z.bs.length + pend.length ≤ z.t.length * (4 * l.length + 1)
  td : todo.length + pend.length ≤ 1 + z.t.length * (4 * l.length)
  low : base ≤ w.heap.size

theorem Un.tle {w : World} {base : Nat} {l : List Tm} {z : Zs} {P todo : List (Nat × Nat)} {pend : List Nat} (h : Un w base l z P todo pend) : z.t.length ≤ l.length := h.cz.ok.num_le
theorem Un.bound {w : World} {base : Nat} {l : List Tm} {z : Zs} {P todo : List (Nat × Nat)} {pend : List Nat} (h : Un w base l z P todo pend) : z.t.length * (4 * l.length) ≤ 90000 ∧ z.t.length * (4 * l.length + 1) ≤ 90150 := by
  have h1 := h.tle
  have h2 := h.cz.len
  have h3 : z.t.length * (4 * l.length) ≤ 150 * 600 := Nat.mul_le_mul (by omega) (by omega)
  have h4 : z.t.length * (4 * l.length + 1) ≤ 150 * 601 := Nat.mul_le_mul (by omega) (by omega)
  omega
theorem Un.keep {w w' : World} {base : Nat} {l : List Tm} {z : Zs} {P todo : List (Nat × Nat)} {pend : List Nat} (h : Un w base l z P todo pend) {S : Nat → Prop} (K : Kept S w w') (hS : ∀ k, z.All k → ¬ S k) : Un w' base l z P todo pend :=
  ⟨h.cz.keep K hS, h.inv, h.ms, h.bs, h.td, Nat.le_trans h.low K.size⟩
theorem Un.kept0 {w w' : World} {base : Nat} {l : List Tm} {z : Zs} {P todo : List (Nat × Nat)} {pend : List Nat} (h : Un w base l z P todo pend) (K : Kept0 w w') : Un w' base l z P todo pend := h.keep K (fun _ _ e => e)

/-- How a step changed the state. -/
structure Went (l : List Tm) (w w' : World) (z z' : Zs) : Prop where
  kept : Kept z.Foot w w'
  grows : Grows w z z'
  chain : Chain l z z'
theorem Went.refl (l : List Tm) {w w' : World} (z : Zs) (K : Kept0 w w') : Went l w w' z z := ⟨Kept.mono K (fun _ _ e => e.elim), Grows.refl w z, .refl z⟩
theorem Went.trans {l : List Tm} {w w' w'' : World} {a b c : Zs} (h : Went l w w' a b) (k : Went l w' w'' b c) : Went l w w'' a c :=
  ⟨h.kept.into k.kept h.grows.foot, h.grows.trans k.grows h.kept.size, h.chain.trans k.chain⟩

theorem like_un (w : World) (base : Nat) (l : List Tm) (z : Zs) (P todo : List (Nat × Nat)) (n : Nat) (pend : List Nat) (h : Un w base l z P todo (n :: pend)) :
    Calls Try.prog 123 #[.pointer (some ⟨z.pk, 0, none⟩), .int .i64 (n : Int)] w fun e w' => ∃ (m : Nat) (z' : Zs), e = .returned (.int .i64 (m : Int)) ∧ Un w' base l z' P (todo ++ [(n, m)]) pend ∧ Went l w w' z z' ∧ z'.t = z.t ∧ z'.uv = z.uv ∧ z'.us = z.us := by
  have hn : n < l.length := h.inv.pin n (by simp)
  have ht : l[n]? = some l[n] := List.getElem?_eq_getElem hn
  obtain ⟨b1, b2⟩ := h.bound
  have hms := h.ms
  have hbs := h.bs
  have htd := h.td
  have hlen := h.cz.len
  simp only [List.length_cons] at hms hbs htd
  cases hk : z.kn (Cc.sg z.g.lo l[n]) with
  | some m =>
    refine (like_old w base l z h.cz n _ ht m hk h.inv.le).mono ?_
    rintro e w' ⟨rfl, K⟩
    refine ⟨m, z, rfl, ⟨h.cz.kept0 K, h.inv.old h.cz.bd ht hk, by omega, by omega, by simp; omega, Nat.le_trans h.low K.size⟩, Went.refl l z K, rfl, rfl, rfl⟩
  | none =>
    refine (like_new w base l z h.cz n _ ht hk h.inv.le (by omega) (by omega) h.low).mono ?_
    rintro e w' ⟨rfl, bc, bx, v, _, _, C, K, G⟩
    refine ⟨n, _, rfl, ⟨C, h.inv.new h.cz.bd ht hk (fun s => rfl), ?_, ?_, ?_, Nat.le_trans h.low K.size⟩, ⟨K, G, .like _ _ _ _ _ (.refl z) hk (sg_sk h.cz.bd h.inv.le (by omega) ht (h.cz.oks _ (List.mem_of_getElem? ht)))⟩, rfl, rfl, rfl⟩
    · show z.ms + 1 + pend.length ≤ l.length + z.t.length * (4 * l.length)
      omega
    · show (z.bs ++ [_]).length + pend.length ≤ z.t.length * (4 * l.length + 1)
      simp; omega
    · show (todo ++ [(n, n)]).length + pend.length ≤ 1 + z.t.length * (4 * l.length)
      simp; omega

theorem rt_of_lo {n : Nat} {g : Uf.G} {k : Nat} (h : Uf.Ok n g k) {i j : Nat} (hi : i < n) (hj : j < n) (e : g.lo i = g.lo j) : g.rt i = g.rt j := by rw [← h.loin i hi, e, h.loin j hj]
theorem lo_of_rt {g : Uf.G} {i j : Nat} (e : g.rt i = g.rt j) : g.lo i = g.lo j := by simp [Uf.G.lo, e]

/-- The least numbers behind a join. -/
theorem joinG_lo {n : Nat} {g : Uf.G} {k : Nat} (h : Uf.Ok n g k) {low high : Nat} (hl : low < n) (hh : high < n) (el : g.lo low = low) (eh : g.lo high = high) (hlt : low < high) :
    joins n g low high = true ∧ ∀ i, i < n → (joinG n g low high).lo i = if g.lo i = high then low else g.lo i := by
  have hne : g.rt low ≠ g.rt high := fun e => by have := lo_of_rt e; omega
  have hj : joins n g low high = true := by simp [joins, inB_nat hl, inB_nat hh, hne]
  refine ⟨hj, fun i hi => ?_⟩
  have l1 : (g.N (g.rt low)).lst = low := el
  have l2 : (g.N (g.rt high)).lst = high := eh
  rw [joinG, hj, if_pos rfl, Int.toNat_natCast, Int.toNat_natCast]
  have hp : Uf.pick g low high = if (g.N (g.rt high)).siz < (g.N (g.rt low)).siz then (g.rt high, g.rt low) else (g.rt low, g.rt high) := rfl
  rw [hp]
  have c1 : g.rt i = g.rt high ↔ g.lo i = high := ⟨fun e => by rw [lo_of_rt e, eh], fun e => rt_of_lo h hi hh (by rw [e, eh])⟩
  have c2 : g.rt i = g.rt low ↔ g.lo i = low := ⟨fun e => by rw [lo_of_rt e, el], fun e => rt_of_lo h hi hl (by rw [e, el])⟩
  have fin : (if g.lo i = high ∨ g.lo i = low then low else g.lo i) = if g.lo i = high then low else g.lo i := by
    by_cases e : g.lo i = high
    · simp [e]
    · by_cases e2 : g.lo i = low
      · simp [e2]
      · simp [e, e2]
  split
  · rw [Uf.hang_lo _ _ _ _ hne.symm, l1, l2, ← fin]
    simp only [c1, c2]
    rw [Nat.min_eq_left (by omega)]
  · rw [Uf.hang_lo _ _ _ _ hne, l1, l2, ← fin]
    simp only [c1, c2]
    rw [Nat.min_eq_right (by omega)]
    simp only [or_comm]

theorem join_un (w : World) (base : Nat) (l : List Tm) (z : Zs) (P todo : List (Nat × Nat)) (p : Nat × Nat) (h : Un w base l z P (todo ++ [p]) []) (a b low high : Nat) (hp : p = (a, b) ∨ p = (b, a)) (ha : z.g.lo a = low) (hb : z.g.lo b = high) (hlt : low < high) :
    Calls Try.prog 122 #[.pointer (some ⟨z.pk, 0, none⟩), .int .i64 (low : Int), .int .i64 (high : Int)] w fun e w' => e = .returned (.tuple #[]) ∧ ∃ z' : Zs, Un w' base l z' P todo (z.us high) ∧ Went l w w' z z' ∧ z'.t.length = z.t.length + 1 ∧ z'.uv high = z.uv high ∧ z'.us high = z.us high := by
  have hin := h.inv.inr p (by simp)
  have hab : a < l.length ∧ b < l.length := by rcases hp with rfl | rfl <;> exact ⟨by first | exact hin.1 | exact hin.2, by first | exact hin.2 | exact hin.1⟩
  have hl : low < l.length := by have := h.inv.le a hab.1; omega
  have hh : high < l.length := by have := h.inv.le b hab.2; omega
  have el : z.g.lo low = low := by rw [← ha]; exact h.inv.idem a hab.1
  have eh : z.g.lo high = high := by rw [← hb]; exact h.inv.idem b hab.2
  obtain ⟨b1, b2⟩ := h.bound
  have hms := h.ms
  have hbs := h.bs
  have htd := h.td
  simp only [List.length_nil, List.length_append, List.length_cons, Nat.add_zero] at hms hbs htd
  have hlen := h.cz.len
  have u1 := h.inv.ulen h.cz.bd hl el
  have u2 := h.inv.ulen h.cz.bd hh eh
  obtain ⟨hj, hlo⟩ := joinG_lo h.cz.ok hl hh el eh hlt
  refine (join_in w base l z h.cz low high hl hh (by omega) (by omega) (by omega) h.low).mono ?_
  rintro e w' ⟨rfl, bc, bm, bo, bl, jv', st2, v', bv', _, _, _, _, _, C, K, G⟩
  have ht : (joinT l.length z.g z.t low high).length = z.t.length + 1 := by rw [joinT, hj]; simp
  refine ⟨rfl, _, ⟨C, h.inv.join h.cz.bd hp ha hb hlt hlo (fun r _ => rfl), ?_, ?_, ?_, Nat.le_trans h.low K.size⟩, ⟨K, G, .join _ _ _ _ _ _ _ _ _ _ (.refl z) hj hl (h.cz.usesAt low hl)⟩, ht, if_neg (by omega), if_neg (by omega)⟩
  · show z.ms + (z.us high).length ≤ l.length + (joinT l.length z.g z.t low high).length * (4 * l.length)
    rw [ht, Nat.add_mul]
    omega
  · show (z.bs ++ [_]).length + (z.us high).length ≤ (joinT l.length z.g z.t low high).length * (4 * l.length + 1)
    rw [ht, Nat.add_mul]
    simp
    omega
  · show todo.length + (z.us high).length ≤ 1 + (joinT l.length z.g z.t low high).length * (4 * l.length)
    rw [ht, Nat.add_mul]
    omega

end Go.Proofs.Ytinphcnknionmaa

namespace Go.Proofs.Ytinphcnknionmaa
open Go.RowKit Go.Maps

theorem infoTerm : (Try.prog.info? 42).map (fun i => (i.zero, i.size, i.bytes)) = some (some (.agg #[.string ⟨#[]⟩, .slice none 0 0]), 2, 40) := by kernel_rfl

theorem UseIs.of_row {w : World} {base : Nat} {v : Value} {xs : List Nat} (h : w.ownsRow base 3 1 v xs.length (natC xs)) :
    ∃ st : List (Nat × Obj), UseIs st v xs ∧ Sat st w ∧ ∀ x ∈ st, v.ownBlock = some x.1 := by
  by_cases hx : xs = []
  · subst hx
    rcases h.2 with ⟨rfl, _⟩ | ⟨g, cap, cur, rfl, _⟩
    · exact ⟨[], ⟨none, 0, rfl, by simp, .inl rfl⟩, fun x hx => by simp at hx, fun x hx => by simp at hx⟩
    · exact ⟨[], ⟨_, cap, rfl, by simp, .inl rfl⟩, fun x hx => by simp at hx, fun x hx => by simp at hx⟩
  · obtain ⟨x, h1, h2, h3⟩ := UseIs.own h hx
    exact ⟨[x], h1, fun y hy => by simp at hy; subst hy; exact h2, fun y hy => by simp at hy; subst hy; exact h3⟩

/-- The first k terms are filled in. -/
structure Tf (w W : World) (tb : Nat) (l : List Tm) (k : Nat) (av : Nat → Value) (st : List (Nat × Obj)) : Prop where
  row : ∃ f, W.rowIs tb 42 (l.length * 2) f ∧ ∀ j, j < k * 2 → f j = termC l av j
  sat : Sat st W
  far : ∀ x ∈ st, w.heap.size ≤ x.1 ∧ x.1 ≠ tb
  args : ∀ (i : Nat) (t : Tm), i < k → l[i]? = some t → UseIs st (av i) t.args
  kept : Kept0 w W
  tb : w.heap.size ≤ tb

theorem below_kept0 {w w' : World} (h : Below w.heap.size w w') : Kept0 w w' := ⟨h.os, h.tape, h.output, h.size, fun k hk _ => h.block k hk⟩

theorem Tf.step {w wr w2 : World} {tb : Nat} {l : List Tm} {k : Nat} {av : Nat → Value} {st : List (Nat × Obj)} {t : Tm} {v : Value} (T : Tf w wr tb l k av st) (ht : l[k]? = some t) (O2 : w2.ownsRow wr.heap.size 3 1 v t.args.length (argC t.args)) (B2 : Below wr.heap.size wr w2) :
    ∃ st', Tf w ((w2.setCell ⟨tb, k * 2, none⟩ (.string t.name)).setCell ⟨tb, k * 2 + 1, none⟩ v) tb l (k + 1) (fun i => if i = k then v else av i) st' := by
  obtain ⟨st2, u1, u2, u3⟩ := UseIs.of_row (xs := t.args) O2
  obtain ⟨f, R, hf⟩ := T.row
  have hlt := R.lt
  have R2 : w2.rowIs tb 42 (l.length * 2) f := R.of_block (B2.block _ hlt)
  have far2 : ∀ x ∈ st2, wr.heap.size ≤ x.1 := fun x hx => (O2.lt _ (u3 x hx)).1
  have blk : ∀ b, b ≠ tb → ((w2.setCell ⟨tb, k * 2, none⟩ (.string t.name)).setCell ⟨tb, k * 2 + 1, none⟩ v).heap[b]? = w2.heap[b]? := fun b hb => (Below.heap_setCell _ _ _ _ hb).trans (Below.heap_setCell _ _ _ _ hb)
  refine ⟨st ++ st2, ⟨⟨_, (R2.set (k * 2) (.string t.name)).set (k * 2 + 1) v, fun j hj => ?_⟩, fun x hx => ?_, fun x hx => ?_, fun i u hi hu => ?_, ?_, T.tb⟩⟩
  · show (if j = k * 2 + 1 then v else if j = k * 2 then .string t.name else f j) = termC l (fun i => if i = k then v else av i) j
    unfold termC
    by_cases e1 : j = k * 2 + 1
    · subst e1
      have h1 : (k * 2 + 1) % 2 = 1 := by omega
      have h2 : (k * 2 + 1) / 2 = k := by omega
      simp [h1, h2]
    · by_cases e0 : j = k * 2
      · subst e0
        have h1 : k * 2 % 2 = 0 := by omega
        have h2 : k * 2 / 2 = k := by omega
        simp [h2, ht]
      · rw [if_neg e1, if_neg e0, hf j (by omega)]
        unfold termC
        have h3 : j / 2 ≠ k := by omega
        simp [h3]
  · rcases List.mem_append.1 hx with hx | hx
    · have hlx : x.1 < wr.heap.size := (Array.getElem?_eq_some_iff.1 (T.sat x hx)).1
      exact (blk _ (T.far x hx).2).trans ((B2.block _ hlx).trans (T.sat x hx))
    · have := far2 x hx
      exact (blk _ (by omega)).trans (u2 x hx)
  · rcases List.mem_append.1 hx with hx | hx
    · exact T.far x hx
    · have := far2 x hx
      have := T.kept.size
      exact ⟨by omega, by omega⟩
  · by_cases e : i = k
    · subst e
      rw [ht] at hu
      cases hu
      show UseIs _ (if i = i then v else av i) t.args
      rw [if_pos rfl]
      exact u1.mono (fun y hy => List.mem_append_right _ hy)
    · show UseIs _ (if i = k then v else av i) u.args
      rw [if_neg e]
      exact (T.args i u (by omega) hu).mono (fun y hy => List.mem_append_left _ hy)
  · exact Kept.setNew (Kept.setNew (T.kept.trans (below_kept0 B2)) T.tb _) T.tb _

set_option maxHeartbeats 2000000 in
set_option maxRecDepth 100000 in
theorem termsOf_in (w : World) (base p : Nat) (ev : Value) (nb fb : Nat) (l : List Tm) (h : Bk w base p ev nb fb l) :
    Calls Try.prog 88 #[.pointer (some ⟨p, 0, none⟩)] w fun e w' => ∃ tb av st, e = .returned (.slice (some ⟨tb, 0, none⟩) l.length l.length) ∧ Tf w w' tb l l.length av st := by
  have SZ := size_in w base p ev nb fb l h
  have hsm := h.small
  obtain ⟨i0, hi0, hz0, hz1, hz2⟩ := info_parts infoTerm
  obtain ⟨C, hC, hm1⟩ : ∃ C : Array Value, C.size = l.length * 2 ∧ (Instr.makeSlice 142 (.int .i64 (l.length : Int)) (.int .i64 (l.length : Int))).run Try.prog w = .ok (.slice (some ⟨w.heap.size, 0, none⟩) l.length l.length) (w.alloc (.cells C 42)) := by
    have hmk := run_make (P := Try.prog) w 142 42 i0 _ Try.underlying142 hi0 hz0 .i64 .i64 (l.length : Int) (l.length : Int) (by omega) (Int.le_refl _) (by rw [hz2]; omega) (by omega)
    simp only [Int.toNat_natCast] at hmk
    exact ⟨_, by rw [size_madeCells, hz1], hmk⟩
  have R0 := made_row w C 42
  rw [hC] at R0
  have K0 : Kept0 w (w.alloc (.cells C 42)) := Kept.alloc (Kept.refl _ w) _
  clear hi0 hz0 hz1 hz2 hC
  go_enter Try.func88, Try.ntmps88
  go_wp2_with (go_at_call 21; refine SZ.mono ?_; rintro e w9 ⟨rfl, rfl⟩)
  clear hm1 SZ
  generalize w.alloc (.cells C 42) = w1 at *
  go_loopw [10] (fun t10 W => ∃ (k : Nat) (av : Nat → Value) (st : List (Nat × Obj)), k ≤ l.length ∧ t10 = .int .i64 (k : Int) ∧ Tf w W w.heap.size l k av st) (fun t10 _ => l.length - (intOf t10).toNat)
  case atStart => exact ⟨0, fun _ => .slice none 0 0, [], by omega, rfl, ⟨⟨_, R0, fun j hj => by omega⟩, fun x hx => by simp at hx, fun x hx => by simp at hx, fun i t hi => by omega, K0, Nat.le_refl _⟩⟩
  case round =>
    clear R0 K0
    obtain ⟨k, av, st, hk, rfl, T⟩ := hrel
    by_cases hk2 : k < l.length
    · have dk : decide ((k : Int) < (l.length : Int)) = true := decide_eq_true (by omega)
      have ht : l[k]? = some l[k] := List.getElem?_eq_getElem hk2
      have TS := term_some wr base p ev nb fb l (h.kept0 T.kept) k l[k] ht
      obtain ⟨f, R, hf⟩ := T.row
      have CE : ∀ W, Below wr.heap.size wr W → W.rowIs w.heap.size 42 (l.length * 2) f := fun W B => R.of_block (B.block _ R.lt)
      generalize hlk : l[k] = t at *
      go_wp2_with (go_at_call 23; refine TS.mono ?_; rintro e w2 ⟨v, rfl, O2, B2⟩; have R2 := CE w2 B2; have y0 := R2.cell (i := k * 2) (by omega); have y1 := R2.cell (i := k * 2 + 1) (by omega); have f0 := R2.frozen (k * 2); have f1 := R2.frozen (k * 2 + 1); obtain ⟨va, vc, hv⟩ := row_form' O2; subst hv)
      obtain ⟨st', T'⟩ := T.step ht O2 B2
      exact ⟨⟨k + 1, _, st', by omega, by simp, T'⟩, by simp [intOf]; omega⟩
    · have dk : decide ((k : Int) < (l.length : Int)) = false := decide_eq_false (by omega)
      obtain rfl : k = l.length := by omega
      go_wp2_with fail
      go_ret
      exact ⟨_, av, st, rfl, T⟩

end Go.Proofs.Ytinphcnknionmaa

namespace Go.Proofs.Ytinphcnknionmaa.Cc

/-- Which terms use which, one after the other. -/
def evn (t : Tm) (n : Nat) : List (Nat × Nat) := t.args.map (fun a => (a, n))
def evs : List Tm → Nat → List (Nat × Nat)
  | [], _ => []
  | t :: l, n => evn t n ++ evs l (n + 1)
def usf (d : List (Nat × Nat)) (i : Nat) : List Nat := (d.filter (fun x => x.1 == i)).map (fun x => x.2)
def cna (d : List (Nat × Nat)) (i : Nat) : Nat := (usf d i).length

theorem evs_app (l m : List Tm) (n : Nat) : evs (l ++ m) n = evs l n ++ evs m (n + l.length) := by
  induction l generalizing n with
  | nil => simp [evs]
  | cons t l ih =>
    have e : n + 1 + l.length = n + (l.length + 1) := by omega
    simp [evs, ih, e]
theorem evs_take {l : List Tm} {n : Nat} {t : Tm} (ht : l[n]? = some t) : evs (l.take (n + 1)) 0 = evs (l.take n) 0 ++ evn t n := by
  have hn := (List.getElem?_eq_some_iff.1 ht).1
  have h1 : l.take (n + 1) = l.take n ++ [t] := by rw [List.take_add_one, ht]; rfl
  rw [h1, evs_app]
  simp [evs, List.length_take, Nat.min_eq_left (Nat.le_of_lt hn)]
/-- What came ahead of arg k of term n. -/
def pre (l : List Tm) (n : Nat) (t : Tm) (k : Nat) : List (Nat × Nat) := evs (l.take n) 0 ++ (t.args.take k).map (fun a => (a, n))
theorem pre_zero (l : List Tm) (n : Nat) (t : Tm) : pre l n t 0 = evs (l.take n) 0 := by simp [pre]
theorem pre_step {l : List Tm} {n : Nat} {t : Tm} {k a : Nat} (ha : t.args[k]? = some a) : pre l n t (k + 1) = pre l n t k ++ [(a, n)] := by
  unfold pre
  rw [List.take_add_one, ha]
  simp
theorem pre_all {l : List Tm} {n : Nat} {t : Tm} (ht : l[n]? = some t) : pre l n t t.args.length = evs (l.take (n + 1)) 0 := by
  rw [evs_take ht]
  simp [pre, evn]
theorem evs_all (l : List Tm) : evs (l.take l.length) 0 = evs l 0 := by rw [List.take_length]

theorem usf_snoc (d : List (Nat × Nat)) (a n i : Nat) : usf (d ++ [(a, n)]) i = if i = a then usf d i ++ [n] else usf d i := by
  unfold usf
  rw [List.filter_append, List.map_append]
  by_cases e : i = a
  · subst e; simp
  · rw [if_neg e]
    have : (a == i) = false := beq_eq_false_iff_ne.2 (Ne.symm e)
    simp [this]
theorem cna_snoc (d : List (Nat × Nat)) (a n i : Nat) : cna (d ++ [(a, n)]) i = if i = a then cna d i + 1 else cna d i := by
  unfold cna
  rw [usf_snoc]
  split <;> simp
theorem usf_app (d e : List (Nat × Nat)) (i : Nat) : usf (d ++ e) i = usf d i ++ usf e i := by simp [usf]
theorem cna_app (d e : List (Nat × Nat)) (i : Nat) : cna (d ++ e) i = cna d i + cna e i := by simp [cna, usf_app]
theorem cna_le (d : List (Nat × Nat)) (i : Nat) : cna d i ≤ d.length := by
  unfold cna usf
  rw [List.length_map]
  exact List.length_filter_le _ _

/-- Where the room of i begins. -/
def offs (c : Nat → Nat) : Nat → Nat
  | 0 => 0
  | i + 1 => offs c i + c i
theorem offs_mono (c : Nat → Nat) {i j : Nat} (h : i < j) : offs c i + c i ≤ offs c j := by
  induction j with
  | zero => omega
  | succ j ih =>
    simp only [offs]
    by_cases e : i = j
    · subst e; omega
    · have := ih (by omega); omega
theorem offs_congr {c c' : Nat → Nat} (h : ∀ i, c i = c' i) (n : Nat) : offs c n = offs c' n := by
  induction n with
  | zero => rfl
  | succ n ih => simp only [offs]; rw [ih, h]
theorem offs_add (c : Nat → Nat) (a n : Nat) : offs (fun i => if i = a then c i + 1 else c i) n = offs c n + if a < n then 1 else 0 := by
  induction n with
  | zero => simp [offs]
  | succ n ih =>
    simp only [offs]
    rw [ih]
    by_cases e : n = a
    · subst e; simp; omega
    · rw [if_neg e]
      by_cases e2 : a < n
      · simp [e2, show a < n + 1 by omega]; omega
      · have : ¬ a < n + 1 := by omega
        simp [e2, this]
/-- The rooms together are what came. -/
theorem offs_all (N : Nat) (d : List (Nat × Nat)) (h : ∀ x ∈ d, x.1 < N) : offs (cna d) N = d.length := by
  have key : ∀ e : List (Nat × Nat), (∀ x ∈ e, x.1 < N) → offs (cna e.reverse) N = e.length := by
    intro e
    induction e with
    | nil =>
      intro _
      have : ∀ n, offs (cna []) n = 0 := by
        intro n
        induction n with
        | zero => rfl
        | succ n ih => simp only [offs]; rw [ih]; rfl
      simpa using this N
    | cons x e ih =>
      intro hx
      obtain ⟨a, n⟩ := x
      have h1 := ih (fun y hy => hx y (by simp [hy]))
      have ha : a < N := hx (a, n) (by simp)
      rw [List.reverse_cons, offs_congr (cna_snoc e.reverse a n) N, offs_add, h1, if_pos ha]
      simp
  have := key d.reverse (fun x hx => h x (by simpa using hx))
  simpa using this

theorem evs_lt {N : Nat} {l : List Tm} (hb : ∀ t ∈ l, ∀ a ∈ t.args, a < N) : ∀ m, ∀ x ∈ evs l m, x.1 < N := by
  induction l with
  | nil => intro m x hx; simp [evs] at hx
  | cons t l ih =>
    intro m x hx
    simp only [evs, List.mem_append] at hx
    rcases hx with hx | hx
    · simp [evn] at hx
      obtain ⟨a, ha, rfl⟩ := hx
      exact hb t (by simp) a ha
    · exact ih (fun t ht => hb t (by simp [ht])) (m + 1) x hx
theorem evs_len {l : List Tm} (h4 : ∀ t ∈ l, t.args.length ≤ 4) : ∀ m, (evs l m).length ≤ 4 * l.length := by
  induction l with
  | nil => intro m; simp [evs]
  | cons t l ih =>
    intro m
    have h1 := ih (fun t ht => h4 t (by simp [ht])) (m + 1)
    have h2 := h4 t (by simp)
    simp [evs, evn]
    omega

theorem pre_len {l : List Tm} (h4 : ∀ t ∈ l, t.args.length ≤ 4) {n : Nat} {t : Tm} (ht : l[n]? = some t) (k : Nat) : (pre l n t k).length ≤ 4 * l.length := by
  have hn := (List.getElem?_eq_some_iff.1 ht).1
  have h1 := evs_len (l := l.take n) (fun u hu => h4 u (List.mem_of_mem_take hu)) 0
  have h2 := h4 t (List.mem_of_getElem? ht)
  rw [List.length_take, Nat.min_eq_left (Nat.le_of_lt hn)] at h1
  unfold pre
  rw [List.length_append, List.length_map, List.length_take]
  have : min k t.args.length ≤ t.args.length := Nat.min_le_right _ _
  omega
/-- What came ahead is the beginning of all. -/
theorem pre_part {l : List Tm} {n : Nat} {t : Tm} (ht : l[n]? = some t) (k : Nat) : ∃ e, evs l 0 = pre l n t k ++ e := by
  have h1 := List.take_append_drop (n + 1) l
  refine ⟨(t.args.drop k).map (fun a => (a, n)) ++ evs (l.drop (n + 1)) (0 + (l.take (n + 1)).length), ?_⟩
  conv => lhs; rw [← h1]
  rw [evs_app, evs_take ht]
  unfold pre evn
  have h2 : t.args.map (fun a => (a, n)) = (t.args.take k).map (fun a => (a, n)) ++ (t.args.drop k).map (fun a => (a, n)) := by rw [← List.map_append, List.take_append_drop]
  rw [h2]
  simp only [List.append_assoc]
theorem pre_cna {l : List Tm} {n : Nat} {t : Tm} (ht : l[n]? = some t) (k i : Nat) : cna (pre l n t k) i ≤ cna (evs l 0) i := by
  obtain ⟨e, he⟩ := pre_part ht k
  rw [he, cna_app]
  omega

/-- The first uses are as told. -/
theorem usf_uc (l : List Tm) (r n : Nat) : (usf (evs l 0) r).count n = uc l id r n := by
  have key : ∀ (l : List Tm) (m : Nat), (usf (evs l m) r).count n = if m ≤ n then uc l id r (n - m) else 0 := by
    intro l
    induction l with
    | nil => intro m; simp [evs, usf, uc]
    | cons t l ih =>
      intro m
      rw [evs, usf_app, List.count_append, ih (m + 1)]
      have h1 : (usf (evn t m) r).count n = if m = n then t.args.countP (fun a => a == r) else 0 := by
        have : ∀ xs : List Nat, (usf (xs.map (fun a => (a, m))) r).count n = if m = n then xs.countP (fun a => a == r) else 0 := by
          intro xs
          induction xs with
          | nil => simp [usf]
          | cons x xs ih =>
            unfold usf at ih ⊢
            by_cases e : x = r
            · subst e
              by_cases e2 : m = n
              · subst e2; simp at ih ⊢; exact ih
              · simp [e2] at ih ⊢; exact ih
            · have e' : (x == r) = false := beq_eq_false_iff_ne.2 e
              simp only [List.map_cons, List.filter_cons, e', List.countP_cons]
              simpa using ih
        exact this t.args
      rw [h1]
      by_cases e : m = n
      · subst e
        have : ¬ m + 1 ≤ m := by omega
        simp [uc, this]
      · by_cases e2 : m + 1 ≤ n
        · have h3 : n - m = (n - (m + 1)) + 1 := by omega
          simp [e, e2, show m ≤ n by omega, uc, h3]
        · have : ¬ m ≤ n := by omega
          simp [e, e2, this]
  simpa using key l 0

end Go.Proofs.Ytinphcnknionmaa.Cc

namespace Go.Proofs.Ytinphcnknionmaa
open Go.RowKit Go.Maps

/-- append where there is room, in the walk. -/
theorem wpList_append_spare {P : Program} {ops : Array Oper} {rest : List Oper} {o : Oper} {a : Act} {w : World} {Q : Exit → Act → World → Prop} (hgd : o.guard = none) (sl x : Operand) (t : TypeId)
    (ho : o.op = .call { callee := .builtin .append, args := #[sl, x], argTypes := #[t, t] })
    (e : TypeId) (i : TypeInfo) (size : Nat) (h1 : P.underlying t = some (.slice e)) (h2 : P.info? e = some i) (h4 : i.size = size)
    (b off n cap : Nat) (hs : a.eval sl = .slice (some ⟨b, off, none⟩) n cap)
    (ad : Addr) (m c : Nat) (news : List Value) (hx : a.eval x = .slice (some ad) m c) (hn : news.length = m * size) (hc : ∀ j u, news[j]? = some u → w.cell? (ad.add j) = some u) (h1c : ∀ u ∈ news, u.oneCell' = true)
    (hroom : n + m ≤ cap) (hspare : ∀ j, j < news.length → (w.cell? ⟨b, off + n * size + j, none⟩).isSome = true ∧ w.frozen? ⟨b, off + n * size + j, none⟩ = false)
    (h : wpList P ops Q rest (a.put o.dst (.slice (some ⟨b, off, none⟩) (n + m) cap)) (w.setCells b (off + n * size) news)) : wpList P ops Q (o :: rest) a w := by
  refine wpList_plain hgd fun K hK => ?_
  subst h4
  have hr := run_append_room_cells (P := P) w t o.type e i h1 h2 b off n cap ad m c news hn hc h1c hroom (fun j hj => (hspare j hj).1) (fun j hj => (hspare j hj).2)
  unfold Oper.wp execOp
  simp only [ho, resolve, invoke, builtin, Sem.run_bind, Sem.run_pure, Result.andThen_ok, List.map_toArray, List.map_cons, List.map_nil, hs, hx, hr]
  exact hK _ _ h

/-- A row of numbers, one for each term. -/
theorem make_ints (w : World) (ty : TypeId) (hty : Try.prog.underlying ty = some (.slice 3)) (n : Nat) (hn : n ≤ 1000000) : (Instr.makeSlice ty (.int .i64 (n : Int)) (.int .i64 (n : Int))).run Try.prog w = .ok (.slice (some ⟨w.heap.size, 0, none⟩) n n) (w.alloc (.cells (madeCells #[.int .i64 0] n) 3)) := by
  obtain ⟨i0, hi0, hz0, hz1, hz2⟩ := info_parts infoIntK
  have hmk := run_make (P := Try.prog) w ty 3 i0 _ hty hi0 hz0 .i64 .i64 (n : Int) (n : Int) (by omega) (Int.le_refl _) (by rw [hz2]; omega) (by omega)
  rw [hz1] at hmk
  simp only [Int.toNat_natCast, Nat.mul_one] at hmk
  exact hmk

theorem infoUses : (Try.prog.info? 198).map (fun i => (i.zero, i.size, i.bytes)) = some (some (.slice none 0 0), 1, 24) := by kernel_rfl
theorem make_uses (w : World) (n : Nat) (hn : n ≤ 1000000) : (Instr.makeSlice 146 (.int .i64 (n : Int)) (.int .i64 (n : Int))).run Try.prog w = .ok (.slice (some ⟨w.heap.size, 0, none⟩) n n) (w.alloc (.cells (madeCells #[.slice none 0 0] n) 198)) := by
  obtain ⟨i0, hi0, hz0, hz1, hz2⟩ := info_parts infoUses
  have hmk := run_make (P := Try.prog) w 146 198 i0 _ Try.underlying146 hi0 hz0 .i64 .i64 (n : Int) (n : Int) (by omega) (Int.le_refl _) (by rw [hz2]; omega) (by omega)
  rw [hz1] at hmk
  simp only [Int.toNat_natCast, Nat.mul_one] at hmk
  exact hmk

/-- The room as far as it is filled. -/
def Rm (W : World) (rb total N : Nat) (c : Nat → Nat) (d : List (Nat × Nat)) : Prop := ∃ g, W.rowIs rb 3 total g ∧ ∀ i, i < N → ∀ j x : Nat, (Cc.usf d i)[j]? = some x → g (Cc.offs c i + j) = .int .i64 (x : Int)
theorem Rm.step {W : World} {rb total N : Nat} {c : Nat → Nat} {d : List (Nat × Nat)} (h : Rm W rb total N c d) {a n : Nat} (hd : Cc.cna d a < c a) (hle : ∀ i, Cc.cna d i ≤ c i) :
    Rm (W.setCell ⟨rb, Cc.offs c a + Cc.cna d a, none⟩ (.int .i64 (n : Int))) rb total N c (d ++ [(a, n)]) := by
  obtain ⟨g, R, hg⟩ := h
  refine ⟨_, R.set (Cc.offs c a + Cc.cna d a) (.int .i64 (n : Int)), fun i hi j x hj => ?_⟩
  rw [Cc.usf_snoc] at hj
  show (if Cc.offs c i + j = Cc.offs c a + Cc.cna d a then Value.int .i64 (n : Int) else g (Cc.offs c i + j)) = _
  by_cases e : i = a
  · subst e
    rw [if_pos rfl] at hj
    by_cases ej : j < Cc.cna d i
    · rw [List.getElem?_append_left ej] at hj
      rw [if_neg (by omega)]
      exact hg i hi j x hj
    · have hjl := (List.getElem?_eq_some_iff.1 hj).1
      rw [List.length_append, List.length_singleton] at hjl
      have ej2 : j = Cc.cna d i := by unfold Cc.cna at ej ⊢; omega
      subst ej2
      rw [if_pos rfl]
      unfold Cc.cna at hj
      rw [List.getElem?_append_right (Nat.le_refl _), Nat.sub_self] at hj
      simp at hj
      rw [hj]
  · rw [if_neg e] at hj
    have hjl : j < Cc.cna d i := (List.getElem?_eq_some_iff.1 hj).1
    have h1 := hle i
    have : ¬ Cc.offs c i + j = Cc.offs c a + Cc.cna d a := by
      rcases Nat.lt_or_gt_of_ne e with e | e
      · have := Cc.offs_mono c e; omega
      · have := Cc.offs_mono c e; omega
    rw [if_neg this]
    exact hg i hi j x hj

/-- The slice of term i, behind d. -/
def slD (rb : Nat) (c : Nat → Nat) (d : List (Nat × Nat)) (i : Nat) : Value := .slice (some ⟨rb, if c i = 0 then 0 else Cc.offs c i, none⟩) (Cc.cna d i) (c i)

/-- What firstUses leaves. -/
structure Fu (w w' : World) (ub : Nat) (l : List Tm) (uv : Nat → Value) (st : List (Nat × Obj)) : Prop where
  row : w'.rowIs ub 198 l.length uv
  sat : Sat st w'
  far : ∀ x ∈ st, w.heap.size ≤ x.1 ∧ x.1 ≠ ub
  uses : ∀ i, i < l.length → UseIs st (uv i) (Cc.usf (Cc.evs l 0) i)
  kept : Kept0 w w'
  ub : w.heap.size ≤ ub

theorem Fu.made {w w' : World} {rb : Nat} {l : List Tm} (h1 : w'.rowIs (rb + 1) 198 l.length (slD rb (Cc.cna (Cc.evs l 0)) (Cc.evs l 0))) (h2 : Rm w' rb (Cc.evs l 0).length l.length (Cc.cna (Cc.evs l 0)) (Cc.evs l 0)) (hall : Cc.offs (Cc.cna (Cc.evs l 0)) l.length = (Cc.evs l 0).length) (K : Kept0 w w') (hb : w.heap.size ≤ rb) :
    ∃ uv st2, Fu w w' (rb + 1) l uv st2 := by
  obtain ⟨g, ⟨C, q1, q2, q3⟩, hg⟩ := h2
  refine ⟨_, [(rb, .cells C 3 (0, 0))], ⟨h1, fun x hx => by simp at hx; subst hx; exact q1, fun x hx => by simp at hx; subst hx; exact ⟨hb, by show rb ≠ rb + 1; omega⟩, fun i hi => ?_, K, by omega⟩⟩
  refine ⟨_, Cc.cna (Cc.evs l 0) i, rfl, Nat.le_refl _, ?_⟩
  by_cases e : Cc.usf (Cc.evs l 0) i = []
  · exact .inl e
  · have hc : Cc.cna (Cc.evs l 0) i ≠ 0 := fun x => e (List.eq_nil_of_length_eq_zero x)
    refine .inr ⟨rb, Cc.offs (Cc.cna (Cc.evs l 0)) i, C, (0, 0), by rw [if_neg hc], by simp, fun j x hj => ?_⟩
    have hjl : j < Cc.cna (Cc.evs l 0) i := (List.getElem?_eq_some_iff.1 hj).1
    have := Cc.offs_mono (Cc.cna (Cc.evs l 0)) hi
    rw [q3 _ (by omega), hg i hi j x hj]

set_option maxHeartbeats 2000000 in
set_option maxRecDepth 100000 in
theorem first_in (w : World) (l : List Tm) (tb : Nat) (av : Nat → Value) (st : List (Nat × Obj)) (hR : w.rowIs tb 42 (l.length * 2) (termC l av)) (hS : Sat st w) (hA : ∀ (i : Nat) (t : Tm), l[i]? = some t → UseIs st (av i) t.args) (hb : Cc.Bd l) (hl : l.length ≤ 150) :
    Calls Try.prog 120 #[.slice (some ⟨tb, 0, none⟩) l.length l.length] w fun e w' => ∃ ub uv st2, e = .returned (.slice (some ⟨ub, 0, none⟩) l.length l.length) ∧ Fu w w' ub l uv st2 := by
  have M1 := make_ints w 40 Try.underlying40 l.length (by omega)
  have R1 := World.rowIs_made w (.int .i64 0) l.length 3
  have K1 : Kept0 w (w.alloc (.cells (madeCells #[.int .i64 0] l.length) 3)) := Kept.alloc (Kept.refl _ w) _
  go_enter Try.func120, Try.ntmps120
  go_wp2_with fail
  clear M1
  generalize w.alloc (.cells (madeCells #[.int .i64 0] l.length) 3) = w1 at *
  have h4 := hb.four
  have hcb : w.heap.size < w1.heap.size := R1.lt
  have htl := hR.lt
  generalize hcbe : w.heap.size = cb at *
  have T0 : ∀ W, Kept0 w W → ∀ (n : Nat) (t : Tm), l[n]? = some t → W.cell? ⟨tb, n * 2, none⟩ = some (.string t.name) ∧ W.cell? ⟨tb, n * 2 + 1, none⟩ = some (av n) := fun W K n t ht => by
    have hn := (List.getElem?_eq_some_iff.1 ht).1
    have R := World.rowIs.of_block hR (K.block tb (by omega) (fun e => e))
    refine ⟨?_, ?_⟩
    · rw [R.cell (i := n * 2) (by omega)]; simp [termC, ht]
    · rw [R.cell (i := n * 2 + 1) (by omega)]
      have h1 : (n * 2 + 1) % 2 = 1 := by omega
      have h2 : (n * 2 + 1) / 2 = n := by omega
      simp [termC, h1, h2]
  have T0h : Hid _ := T0
  clear T0
  have SS : ∀ W, Kept0 w W → Sat st W := fun W K x hx => (K.block x.1 (Array.getElem?_eq_some_iff.1 (hS x hx)).1 (fun e => e)).trans (hS x hx)
  go_loopw [4, 23] (fun t4 t23 W => ∃ n : Nat, n ≤ l.length ∧ t23 = .int .i64 (n : Int) ∧ t4 = .int .i64 ((Cc.evs (l.take n) 0).length : Int) ∧ W.rowIs cb 3 l.length (fun i => .int .i64 (Cc.cna (Cc.evs (l.take n) 0) i : Int)) ∧ Kept0 w W) (fun _ t23 _ => l.length - (intOf t23).toNat)
  case atStart => exact ⟨0, by omega, rfl, rfl, R1, K1⟩
  case round =>
    clear R1 K1
    obtain ⟨n, hn, rfl, rfl, R, K⟩ := hrel
    by_cases hn2 : n < l.length
    · have dn : decide ((n : Int) < (l.length : Int)) = true := decide_eq_true (by omega)
      have ht : l[n]? = some l[n] := List.getElem?_eq_getElem hn2
      generalize hln : l[n] = t at ht
      obtain ⟨t0, t1⟩ := T0h.out wr K n t ht
      obtain ⟨aa, ac, hav⟩ := (hA n t ht).form
      rw [hav] at t1
      have hU := hA n t ht
      rw [hav] at hU
      have K2 : Kept0 w (wr.alloc (.cells #[.string t.name, .slice aa t.args.length ac] 42)) := K.alloc _
      have R2 := R.alloc (.cells #[.string t.name, .slice aa t.args.length ac] 42)
      rw [← Cc.pre_zero l n t] at R2
      have e0 : (Cc.evs (l.take n) 0).length = (Cc.pre l n t 0).length := by rw [Cc.pre_zero]
      go_wp2_with fail
      rw [e0]
      generalize wr.alloc (.cells #[.string t.name, .slice aa t.args.length ac] 42) = w2 at *
      clear t0 t1 R K
      go_loopw [4, 30] (fun t4 t30 W => ∃ k : Nat, k ≤ t.args.length ∧ t30 = .int .i64 (k : Int) ∧ t4 = .int .i64 ((Cc.pre l n t k).length : Int) ∧ W.rowIs cb 3 l.length (fun i => .int .i64 (Cc.cna (Cc.pre l n t k) i : Int)) ∧ Kept0 w W) (fun _ t30 _ => t.args.length - (intOf t30).toNat)
      case atStart => exact ⟨0, by omega, rfl, rfl, R2, K2⟩
      case round =>
        clear R2 K2
        obtain ⟨k, hk, rfl, rfl, R, K⟩ := hrel
        by_cases hk2 : k < t.args.length
        · have dk : decide ((k : Int) < (t.args.length : Int)) = true := decide_eq_true (by omega)
          have hka : t.args[k]? = some t.args[k] := List.getElem?_eq_getElem hk2
          obtain ⟨b, off, cap, hv, _, hc⟩ := hU.cell (SS wr K) hka
          injection hv with e1 e2 e3
          clear e2
          subst e1 e3
          have ck := hc k _ hka
          clear hc
          have hlt := hb.args n t ht _ (List.getElem_mem hk2)
          have hpl := Cc.pre_len h4 ht k
          have hcl := Cc.cna_le (Cc.pre l n t k) t.args[k]
          have R' := World.rowIs.congr (R.set t.args[k] (.int .i64 ((Cc.cna (Cc.pre l n t k) t.args[k] : Int) + 1))) (g := fun i => .int .i64 (Cc.cna (Cc.pre l n t (k + 1)) i : Int)) (fun i hi => by
            rw [Cc.pre_step hka, Cc.cna_snoc]
            by_cases e : i = t.args[k]
            · rw [if_pos e, if_pos e, e]; simp
            · rw [if_neg e, if_neg e])
          have cc := R.cell (i := t.args[k]) hlt
          have fc := R.frozen t.args[k]
          have hpl' : (Cc.pre l n t (k + 1)).length = (Cc.pre l n t k).length + 1 := by rw [Cc.pre_step hka]; simp
          generalize t.args[k] = xa at *
          generalize Cc.cna (Cc.pre l n t k) xa = cn at *
          generalize (Cc.pre l n t k).length = pn at *
          have hk4 : t.args.length ≤ 4 := h4 t (List.mem_of_getElem? ht)
          have HF : Hid (_ ∧ _ ∧ _) := ⟨R', hpl', Kept.setNew (off := xa) K (Nat.le_of_eq hcbe) (.int .i64 ((cn : Int) + 1))⟩
          clear R R' hpl' K hU hka hav hA hR hS T0h SS hb h4 hln ht e0 hcb htl hcbe
          go_wp2_with fail
          obtain ⟨R', hpl', K'⟩ := HF.out
          refine ⟨⟨k + 1, hk2, ?_, ?_, R', K'⟩, ?_⟩
          · simp
          · rw [hpl']; simp
          · simp [intOf]; omega
        · have dk : decide ((k : Int) < (t.args.length : Int)) = false := decide_eq_false (by omega)
          obtain rfl : k = t.args.length := by omega
          rw [Cc.pre_all ht] at R ⊢
          go_wp2_with fail
          exact ⟨⟨n + 1, by omega, by simp, rfl, R, K⟩, by simp [intOf]; omega⟩
    · have dn : decide ((n : Int) < (l.length : Int)) = false := decide_eq_false (by omega)
      obtain rfl : n = l.length := by omega
      rw [Cc.evs_all] at R ⊢
      have htot : (Cc.evs l 0).length ≤ 4 * l.length := Cc.evs_len h4 0
      have hall : Cc.offs (Cc.cna (Cc.evs l 0)) l.length = (Cc.evs l 0).length := Cc.offs_all _ _ (Cc.evs_lt (fun t ht a ha => by
        obtain ⟨n, hn, rfl⟩ := List.mem_iff_getElem.1 ht
        exact hb.args n _ (List.getElem?_eq_getElem hn) a ha) 0)
      have M2 := make_ints wr 198 Try.underlying198 (Cc.evs l 0).length (by omega)
      have M3 := make_uses (wr.alloc (.cells (madeCells #[.int .i64 0] (Cc.evs l 0).length) 3)) l.length (by omega)
      have Rr := World.rowIs.alloc (World.rowIs_made wr (.int .i64 0) (Cc.evs l 0).length 3) (.cells (madeCells #[.slice none 0 0] l.length) 198)
      have Ra := World.rowIs_made (wr.alloc (.cells (madeCells #[.int .i64 0] (Cc.evs l 0).length) 3)) (.slice none 0 0) l.length 198
      have hs1 : (wr.alloc (.cells (madeCells #[.int .i64 0] (Cc.evs l 0).length) 3)).heap.size = wr.heap.size + 1 := by simp
      rw [hs1] at M3 Ra
      have Rc := (R.alloc (.cells (madeCells #[.int .i64 0] (Cc.evs l 0).length) 3)).alloc (.cells (madeCells #[.slice none 0 0] l.length) 198)
      have K5 := (K.alloc (.cells (madeCells #[.int .i64 0] (Cc.evs l 0).length) 3)).alloc (.cells (madeCells #[.slice none 0 0] l.length) 198)
      have hrb : cb < wr.heap.size := R.lt
      go_wp2_with fail
      clear M2 M3 R K hs1
      generalize (wr.alloc (.cells (madeCells #[.int .i64 0] (Cc.evs l 0).length) 3)).alloc (.cells (madeCells #[.slice none 0 0] l.length) 198) = w5 at *
      generalize wr.heap.size = rb at *
      generalize hE : Cc.evs l 0 = E at *
      have hEh : Hid (Cc.evs l 0 = E) := hE
      clear hE
      go_loopw [11, 51] (fun t11 t51 W => ∃ n : Nat, n ≤ l.length ∧ t51 = .int .i64 (n : Int) ∧ t11 = .int .i64 (Cc.offs (Cc.cna E) n : Int) ∧ W.rowIs (rb + 1) 198 l.length (fun i => if i < n then slD rb (Cc.cna E) [] i else .slice none 0 0) ∧ W.rowIs cb 3 l.length (fun i => .int .i64 (Cc.cna E i : Int)) ∧ W.rowIs rb 3 E.length (fun _ => .int .i64 0) ∧ Kept0 w W) (fun _ t51 _ => l.length - (intOf t51).toNat)
      case atStart => exact ⟨0, by omega, rfl, rfl, Ra.congr (fun i _ => by simp), Rc, Rr, K5⟩
      case round =>
        clear Ra Rc Rr K5
        obtain ⟨n, hn, rfl, rfl, Ra, Rc, Rr, K⟩ := hrel
        by_cases hn2 : n < l.length
        · have dn : decide ((n : Int) < (l.length : Int)) = true := decide_eq_true (by omega)
          have cc := Rc.cell (i := n) hn2
          have ca := Ra.cell (i := n) hn2
          rw [if_neg (Nat.lt_irrefl n)] at ca
          have fa := Ra.frozen n
          have hom := Cc.offs_mono (Cc.cna E) hn2
          rw [hall] at hom
          have hoff : Cc.offs (Cc.cna E) (n + 1) = Cc.offs (Cc.cna E) n + Cc.cna E n := rfl
          have SLD : Hid (slD rb (Cc.cna E) [] n = .slice (some ⟨rb, if Cc.cna E n = 0 then 0 else Cc.offs (Cc.cna E) n, none⟩) 0 (Cc.cna E n)) := rfl
          generalize hcn : Cc.cna E n = cn at *
          generalize hon : Cc.offs (Cc.cna E) n = on at *
          clear hA hR hS T0h SS hb h4 hall hcb htl
          have HH : Hid (_ ∧ _ ∧ _ ∧ _ ∧ _ ∧ _) := ⟨hcn, hon, Ra, Rc, Rr, K⟩
          clear hcn hon Ra Rc Rr K
          by_cases hc0 : cn = 0
          · subst hc0
            go_wp2_with fail
            obtain ⟨hcn, hon, Ra, Rc, Rr, K⟩ := HH.out
            have hv := SLD.out
            rw [if_pos rfl] at hv
            refine ⟨⟨n + 1, hn2, by simp, by rw [hoff]; rfl, (Ra.set n _).congr (fun i hi => ?_), Rc.setOther (show cb ≠ rb + 1 by omega) _, Rr.setOther (show rb ≠ rb + 1 by omega) _, Kept.setNew K (by omega) _⟩, by simp [intOf]; omega⟩
            by_cases e : i = n
            · rw [if_pos e, e, if_pos (Nat.lt_succ_self n), hv]
            · rw [if_neg e]
              by_cases e2 : i < n
              · rw [if_pos e2, if_pos (by omega)]
              · rw [if_neg e2, if_neg (by omega)]
          · go_wp2_with fail
            obtain ⟨hcn, hon, Ra, Rc, Rr, K⟩ := HH.out
            have hv := SLD.out
            rw [if_neg hc0] at hv
            refine ⟨⟨n + 1, hn2, by simp, by rw [hoff]; simp, (Ra.set n _).congr (fun i hi => ?_), Rc.setOther (show cb ≠ rb + 1 by omega) _, Rr.setOther (show rb ≠ rb + 1 by omega) _, Kept.setNew K (by omega) _⟩, by simp [intOf]; omega⟩
            by_cases e : i = n
            · rw [if_pos e, e, if_pos (Nat.lt_succ_self n), hv]
            · rw [if_neg e]
              by_cases e2 : i < n
              · rw [if_pos e2, if_pos (by omega)]
              · rw [if_neg e2, if_neg (by omega)]
        · have dn : decide ((n : Int) < (l.length : Int)) = false := decide_eq_false (by omega)
          obtain rfl : n = l.length := by omega
          have Ra0 : wr.rowIs (rb + 1) 198 l.length (slD rb (Cc.cna E) (Cc.evs (l.take 0) 0)) := Ra.congr (fun i hi => by rw [if_pos hi]; rfl)
          have Rm0 : Rm wr rb E.length l.length (Cc.cna E) (Cc.evs (l.take 0) 0) := ⟨_, Rr, fun i _ j x hj => by simp [Cc.evs, Cc.usf] at hj⟩
          have HC : Hid (cb < rb ∧ w.heap.size = cb) := ⟨hrb, hcbe⟩
          clear hrb hcbe hcb htl
          go_wp2_with fail
          clear Ra Rc Rr
          go_loopw [72] (fun t72 W => ∃ n : Nat, n ≤ l.length ∧ t72 = .int .i64 (n : Int) ∧ W.rowIs (rb + 1) 198 l.length (slD rb (Cc.cna E) (Cc.evs (l.take n) 0)) ∧ Rm W rb E.length l.length (Cc.cna E) (Cc.evs (l.take n) 0) ∧ Kept0 w W) (fun t72 _ => l.length - (intOf t72).toNat)
          case atStart => exact ⟨0, by omega, rfl, Ra0, Rm0, K⟩
          case round =>
            clear Ra0 Rm0 K
            obtain ⟨n, hn, rfl, Ra, Rm1, K⟩ := hrel
            by_cases hn2 : n < l.length
            · have dn : decide ((n : Int) < (l.length : Int)) = true := decide_eq_true (by omega)
              have ht : l[n]? = some l[n] := List.getElem?_eq_getElem hn2
              generalize hln : l[n] = t at ht
              clear hln
              obtain ⟨t0, t1⟩ := T0h.out wr K n t ht
              have hU := hA n t ht
              obtain ⟨aa, ac, hav⟩ := hU.form
              rw [hav] at t1 hU
              have K2 : Kept0 w (wr.alloc (.cells #[.string t.name, .slice aa t.args.length ac] 42)) := K.alloc _
              have R2 := Ra.alloc (.cells #[.string t.name, .slice aa t.args.length ac] 42)
              have Rm2 : Rm (wr.alloc (.cells #[.string t.name, .slice aa t.args.length ac] 42)) rb E.length l.length (Cc.cna E) (Cc.evs (l.take n) 0) := by
                obtain ⟨g, q1, q2⟩ := Rm1
                exact ⟨g, q1.alloc _, q2⟩
              rw [← Cc.pre_zero l n t] at R2 Rm2
              have HT : Hid (l[n]? = some t) := ht
              clear ht
              go_wp2_with fail
              have ht := HT.out
              clear HT
              generalize wr.alloc (.cells #[.string t.name, .slice aa t.args.length ac] 42) = w6 at *
              clear t0 t1 Ra Rm1 K hav
              go_loopw [80] (fun t80 W => ∃ k : Nat, k ≤ t.args.length ∧ t80 = .int .i64 (k : Int) ∧ W.rowIs (rb + 1) 198 l.length (slD rb (Cc.cna E) (Cc.pre l n t k)) ∧ Rm W rb E.length l.length (Cc.cna E) (Cc.pre l n t k) ∧ Kept0 w W) (fun t80 _ => t.args.length - (intOf t80).toNat)
              case atStart => exact ⟨0, by omega, rfl, R2, Rm2, K2⟩
              case round =>
                clear R2 Rm2 K2
                obtain ⟨k, hk, rfl, Ra, Rm1, K⟩ := hrel
                by_cases hk2 : k < t.args.length
                · have dk : decide ((k : Int) < (t.args.length : Int)) = true := decide_eq_true (by omega)
                  have hka : t.args[k]? = some t.args[k] := List.getElem?_eq_getElem hk2
                  obtain ⟨b, off, cap, hv, _, hc⟩ := hU.cell (SS wr K) hka
                  injection hv with e1 e2 e3
                  clear e2
                  subst e1 e3
                  have ck := hc k _ hka
                  clear hc
                  have hlt := hb.args n t ht _ (List.getElem_mem hk2)
                  have hk4 : t.args.length ≤ 4 := h4 t (List.mem_of_getElem? ht)
                  generalize t.args[k] = xa at *
                  have hle : ∀ i, Cc.cna (Cc.pre l n t k) i ≤ Cc.cna E i := fun i => by rw [← hEh.out]; exact Cc.pre_cna ht k i
                  have hlt2 : Cc.cna (Cc.pre l n t k) xa < Cc.cna E xa := by
                    have := Cc.pre_cna ht (k + 1) xa
                    rw [Cc.pre_step hka, Cc.cna_snoc, if_pos rfl, hEh.out] at this
                    omega
                  have hom := Cc.offs_mono (Cc.cna E) hlt
                  rw [hall] at hom
                  have Rm3 := Rm1.step (n := n) hlt2 hle
                  rw [← Cc.pre_step hka] at Rm3
                  have ca := Ra.cell (i := xa) hlt
                  have fa := Ra.frozen xa
                  have hsl : slD rb (Cc.cna E) (Cc.pre l n t k) xa = .slice (some ⟨rb, Cc.offs (Cc.cna E) xa, none⟩) (Cc.cna (Cc.pre l n t k) xa) (Cc.cna E xa) := by unfold slD; rw [if_neg (by omega)]
                  have hsl2 : slD rb (Cc.cna E) (Cc.pre l n t (k + 1)) xa = .slice (some ⟨rb, Cc.offs (Cc.cna E) xa, none⟩) (Cc.cna (Cc.pre l n t k) xa + 1) (Cc.cna E xa) := by unfold slD; rw [if_neg (by omega), Cc.pre_step hka, Cc.cna_snoc, if_pos rfl]
                  have hso : ∀ i, i ≠ xa → slD rb (Cc.cna E) (Cc.pre l n t (k + 1)) i = slD rb (Cc.cna E) (Cc.pre l n t k) i := fun i hi => by unfold slD; rw [Cc.pre_step hka, Cc.cna_snoc, if_neg hi]
                  rw [hsl] at ca
                  obtain ⟨g, Rg, hg⟩ := Rm1
                  have hxl : Cc.offs (Cc.cna E) xa + Cc.cna (Cc.pre l n t k) xa < E.length := by omega
                  have cr : ∀ O, (wr.alloc O).cell? ⟨rb, Cc.offs (Cc.cna E) xa + Cc.cna (Cc.pre l n t k) xa, none⟩ = some (g (Cc.offs (Cc.cna E) xa + Cc.cna (Cc.pre l n t k) xa)) ∧ (wr.alloc O).frozen? ⟨rb, Cc.offs (Cc.cna E) xa + Cc.cna (Cc.pre l n t k) xa, none⟩ = false := fun O => by
                    have := Rg.alloc O
                    exact ⟨this.cell hxl, this.frozen _⟩
                  have FIN : Hid (∀ O, ((((wr.alloc O).setCell ⟨rb, Cc.offs (Cc.cna E) xa + Cc.cna (Cc.pre l n t k) xa, none⟩ (.int .i64 (n : Int))).setCell ⟨rb + 1, xa, none⟩ (.slice (some ⟨rb, Cc.offs (Cc.cna E) xa, none⟩) (Cc.cna (Cc.pre l n t k) xa + 1) (Cc.cna E xa))).rowIs (rb + 1) 198 l.length (slD rb (Cc.cna E) (Cc.pre l n t (k + 1)))) ∧ Rm (((wr.alloc O).setCell ⟨rb, Cc.offs (Cc.cna E) xa + Cc.cna (Cc.pre l n t k) xa, none⟩ (.int .i64 (n : Int))).setCell ⟨rb + 1, xa, none⟩ (.slice (some ⟨rb, Cc.offs (Cc.cna E) xa, none⟩) (Cc.cna (Cc.pre l n t k) xa + 1) (Cc.cna E xa))) rb E.length l.length (Cc.cna E) (Cc.pre l n t (k + 1)) ∧ Kept0 w (((wr.alloc O).setCell ⟨rb, Cc.offs (Cc.cna E) xa + Cc.cna (Cc.pre l n t k) xa, none⟩ (.int .i64 (n : Int))).setCell ⟨rb + 1, xa, none⟩ (.slice (some ⟨rb, Cc.offs (Cc.cna E) xa, none⟩) (Cc.cna (Cc.pre l n t k) xa + 1) (Cc.cna E xa)))) := fun O => by
                    obtain ⟨h1, h2⟩ := HC.out
                    refine ⟨?_, ?_, ?_⟩
                    · refine (((Ra.alloc O).setOther (a := ⟨rb, Cc.offs (Cc.cna E) xa + Cc.cna (Cc.pre l n t k) xa, none⟩) (show rb + 1 ≠ rb by omega) (.int .i64 (n : Int))).set xa _).congr (fun i hi => ?_)
                      by_cases e : i = xa
                      · rw [if_pos e, e, hsl2]
                      · rw [if_neg e, hso i e]
                    · have := Rm.step (W := wr.alloc O) (n := n) (⟨g, Rg.alloc O, hg⟩ : Rm (wr.alloc O) rb E.length l.length (Cc.cna E) (Cc.pre l n t k)) hlt2 hle
                      rw [← Cc.pre_step hka] at this
                      obtain ⟨g', q1, q2⟩ := this
                      exact ⟨g', q1.setOther (a := ⟨rb + 1, xa, none⟩) (show rb ≠ rb + 1 by omega) _, q2⟩
                    · exact Kept.setNew (Kept.setNew (K.alloc O) (by omega) _) (by omega) _
                  have ca' : ∀ O, ((wr.alloc O).setCell ⟨rb, Cc.offs (Cc.cna E) xa + Cc.cna (Cc.pre l n t k) xa, none⟩ (.int .i64 (n : Int))).cell? ⟨rb + 1, xa, none⟩ = some (.slice (some ⟨rb, Cc.offs (Cc.cna E) xa, none⟩) (Cc.cna (Cc.pre l n t k) xa) (Cc.cna E xa)) ∧ ((wr.alloc O).setCell ⟨rb, Cc.offs (Cc.cna E) xa + Cc.cna (Cc.pre l n t k) xa, none⟩ (.int .i64 (n : Int))).frozen? ⟨rb + 1, xa, none⟩ = false := fun O => by
                    have q := (Ra.alloc O).setOther (a := ⟨rb, Cc.offs (Cc.cna E) xa + Cc.cna (Cc.pre l n t k) xa, none⟩) (show rb + 1 ≠ rb by omega) (.int .i64 (n : Int))
                    exact ⟨by rw [q.cell hlt, hsl], q.frozen _⟩
                  have HT : Hid (l[n]? = some t ∧ t.args[k]? = some xa) := ⟨ht, hka⟩
                  obtain ⟨i0, hi0, hz0, hz1, hz2⟩ := info_parts infoIntK
                  clear ht hka Ra Rg hg hsl hsl2 hso K Rm3 hle hU hA hS SS hR T0h hb hall h4
                  generalize Cc.cna E xa = cE at *
                  generalize Cc.offs (Cc.cna E) xa = oE at *
                  generalize Cc.cna (Cc.pre l n t k) xa = cd at *
                  obtain ⟨q1, q2⟩ := ca' (.cells #[.int .i64 (n : Int)] 3)
                  obtain ⟨q3, q4⟩ := cr (.cells #[.int .i64 (n : Int)] 3)
                  have hroom : cd + 1 ≤ cE := by omega
                  clear cr ca' hi0 hz0 hz1 hz2
                  go_wp2_with fail
                  obtain ⟨f1, f2, f3⟩ := FIN.out (.cells #[.int .i64 (n : Int)] 3)
                  exact ⟨⟨k + 1, hk2, by simp, f1, f2, f3⟩, by simp [intOf]; omega⟩
                · have dk : decide ((k : Int) < (t.args.length : Int)) = false := decide_eq_false (by omega)
                  obtain rfl : k = t.args.length := by omega
                  rw [Cc.pre_all ht] at Ra Rm1
                  have HT : Hid (l[n]? = some t) := ht
                  clear ht
                  go_wp2_with fail
                  exact ⟨⟨n + 1, by omega, by simp, Ra, Rm1, K⟩, by simp [intOf]; omega⟩
            · have dn : decide ((n : Int) < (l.length : Int)) = false := decide_eq_false (by omega)
              obtain rfl : n = l.length := by omega
              rw [Cc.evs_all] at Ra Rm1
              go_wp2_with fail
              go_ret
              obtain ⟨h1, h2⟩ := HC.out
              have hE := hEh.out
              rw [hE] at Ra Rm1
              rw [← hE] at Ra Rm1 hall
              obtain ⟨uv, st2, F⟩ := Fu.made Ra Rm1 hall K (by omega)
              exact ⟨_, uv, st2, rfl, F⟩

end Go.Proofs.Ytinphcnknionmaa
