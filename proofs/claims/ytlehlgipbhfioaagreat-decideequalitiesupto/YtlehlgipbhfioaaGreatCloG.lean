/- Package close: what stands behind each step of unite. -/
import Derived.Test.YtlehlgipbhfioaaGreatCloD
import Derived.Test.YtlehlgipbhfioaaGreatCloF
namespace Go.Proofs.YtlehlgipbhfioaaGreat
open Go.RowKit Go.Maps

/-- One state is come to from another by steps that can be taken back. -/
inductive Chain (l : List Tm) : Zs → Zs → Prop
  | refl (z : Zs) : Chain l z z
  | like {a b : Zs} (n : Nat) (s : Tm) (bc bx : Nat) (v : Value) : Chain l a b → b.kn s = none → Sk s → Chain l a (likeZ b n s bc bx v)
  | join {a b : Zs} (low high bc bm bo bl : Nat) (jv : Value) (st2 : List (Nat × Obj)) (v bv : Value) : Chain l a b → joins l.length b.g low high = true → low < l.length → UseIs b.st (b.uv low) (b.us low) → Chain l a (joinZ l b low high bc bm bo bl jv st2 v bv)
theorem Chain.trans {l : List Tm} {a b c : Zs} (h : Chain l a b) (k : Chain l b c) : Chain l a c := by
  induction k with
  | refl => exact h
  | like n s bc bx v _ h1 h2 ih => exact .like n s bc bx v ih h1 h2
  | join low high bc bm bo bl jv st2 v bv _ h1 h2 h3 ih => exact .join low high bc bm bo bl jv st2 v bv ih h1 h2 h3

structure Un (w : World) (base : Nat) (l : List Tm) (z : Zs) (P todo : List (Nat × Nat)) (pend : List Nat) : Prop where
  cz : Cz w base l z
  inv : Cc.Inv l P z.g.lo z.us z.kn todo pend
  ms : z.ms + pend.length ≤ l.length + z.t.length * (4 * l.length)
  bs : z.bs.length + pend.length ≤ z.t.length * (4 * l.length + 1)
  td : todo.length + pend.length ≤ 1 + z.t.length * (4 * l.length)
  low : base ≤ w.heap.size

theorem Un.tle {w : World} {base : Nat} {l : List Tm} {z : Zs} {P todo : List (Nat × Nat)} {pend : List Nat} (h : Un w base l z P todo pend) : z.t.length ≤ l.length := h.cz.ok.num_le
theorem Un.bound {w : World} {base : Nat} {l : List Tm} {z : Zs} {P todo : List (Nat × Nat)} {pend : List Nat} (h : Un w base l z P todo pend) : z.t.length * (4 * l.length) ≤ 90000 ∧ z.t.length * (4 * l.length + 1) ≤ 90150 := by
  have h1 := h.tle
  have h2 := h.cz.len
  have h3 : z.t.length * (4 * l.length) ≤ 150 * 600 := Nat.mul_le_mul (by omega) (by omega)
  have h4 : z.t.length * (4 * l.length + 1) ≤ 150 * 601 := Nat.mul_le_mul (by omega) (by omega)
  omega
theorem Un.keep {w w' : World} {base : Nat} {l : List Tm} {z : Zs} {P todo : List (Nat × Nat)} {pend : List Nat} (h : Un w base l z P todo pend) {S : Nat → Prop} (K : Kept S w w') (hS : ∀ k, z.All k → ¬ S k) : Un w' base l z P todo pend :=
  ⟨h.cz.keep K hS, h.inv, h.ms, h.bs, h.td, Nat.le_trans h.low K.size⟩
theorem Un.kept0 {w w' : World} {base : Nat} {l : List Tm} {z : Zs} {P todo : List (Nat × Nat)} {pend : List Nat} (h : Un w base l z P todo pend) (K : Kept0 w w') : Un w' base l z P todo pend := h.keep K (fun _ _ e => e)

/-- How a step changed the state. -/
structure Went (l : List Tm) (w w' : World) (z z' : Zs) : Prop where
  kept : Kept z.Foot w w'
  grows : Grows w z z'
  chain : Chain l z z'
theorem Went.refl (l : List Tm) {w w' : World} (z : Zs) (K : Kept0 w w') : Went l w w' z z := ⟨Kept.mono K (fun _ _ e => e.elim), Grows.refl w z, .refl z⟩
theorem Went.trans {l : List Tm} {w w' w'' : World} {a b c : Zs} (h : Went l w w' a b) (k : Went l w' w'' b c) : Went l w w'' a c :=
  ⟨h.kept.into k.kept h.grows.foot, h.grows.trans k.grows h.kept.size, h.chain.trans k.chain⟩

theorem like_un (w : World) (base : Nat) (l : List Tm) (z : Zs) (P todo : List (Nat × Nat)) (n : Nat) (pend : List Nat) (h : Un w base l z P todo (n :: pend)) :
    Calls Tryz.prog 40 #[.pointer (some ⟨z.pk, 0, none⟩), .int .i64 (n : Int)] w fun e w' => ∃ (m : Nat) (z' : Zs), e = .returned (.int .i64 (m : Int)) ∧ Un w' base l z' P (todo ++ [(n, m)]) pend ∧ Went l w w' z z' ∧ z'.t = z.t ∧ z'.uv = z.uv ∧ z'.us = z.us := by
  have hn : n < l.length := h.inv.pin n (by simp)
  have ht : l[n]? = some l[n] := List.getElem?_eq_getElem hn
  obtain ⟨b1, b2⟩ := h.bound
  have hms := h.ms
  have hbs := h.bs
  have htd := h.td
  have hlen := h.cz.len
  simp only [List.length_cons] at hms hbs htd
  cases hk : z.kn (Cc.sg z.g.lo l[n]) with
  | some m =>
    refine (like_old w base l z h.cz n _ ht m hk h.inv.le).mono ?_
    rintro e w' ⟨rfl, K⟩
    refine ⟨m, z, rfl, ⟨h.cz.kept0 K, h.inv.old h.cz.bd ht hk, by omega, by omega, by simp; omega, Nat.le_trans h.low K.size⟩, Went.refl l z K, rfl, rfl, rfl⟩
  | none =>
    refine (like_new w base l z h.cz n _ ht hk h.inv.le (by omega) (by omega) h.low).mono ?_
    rintro e w' ⟨rfl, bc, bx, v, _, _, C, K, G⟩
    refine ⟨n, _, rfl, ⟨C, h.inv.new h.cz.bd ht hk (fun s => rfl), ?_, ?_, ?_, Nat.le_trans h.low K.size⟩, ⟨K, G, .like _ _ _ _ _ (.refl z) hk (sg_sk h.cz.bd h.inv.le (by omega) ht (h.cz.oks _ (List.mem_of_getElem? ht)))⟩, rfl, rfl, rfl⟩
    · show z.ms + 1 + pend.length ≤ l.length + z.t.length * (4 * l.length)
      omega
    · show (z.bs ++ [_]).length + pend.length ≤ z.t.length * (4 * l.length + 1)
      simp; omega
    · show (todo ++ [(n, n)]).length + pend.length ≤ 1 + z.t.length * (4 * l.length)
      simp; omega

theorem rt_of_lo {n : Nat} {g : Uf.G} {k : Nat} (h : Uf.Ok n g k) {i j : Nat} (hi : i < n) (hj : j < n) (e : g.lo i = g.lo j) : g.rt i = g.rt j := by rw [← h.loin i hi, e, h.loin j hj]
theorem lo_of_rt {g : Uf.G} {i j : Nat} (e : g.rt i = g.rt j) : g.lo i = g.lo j := by simp [Uf.G.lo, e]

/-- The least numbers behind a join. -/
theorem joinG_lo {n : Nat} {g : Uf.G} {k : Nat} (h : Uf.Ok n g k) {low high : Nat} (hl : low < n) (hh : high < n) (el : g.lo low = low) (eh : g.lo high = high) (hlt : low < high) :
    joins n g low high = true ∧ ∀ i, i < n → (joinG n g low high).lo i = if g.lo i = high then low else g.lo i := by
  have hne : g.rt low ≠ g.rt high := fun e => by have := lo_of_rt e; omega
  have hj : joins n g low high = true := by simp [joins, inB_nat hl, inB_nat hh, hne]
  refine ⟨hj, fun i hi => ?_⟩
  have l1 : (g.N (g.rt low)).lst = low := el
  have l2 : (g.N (g.rt high)).lst = high := eh
  rw [joinG, hj, if_pos rfl, Int.toNat_natCast, Int.toNat_natCast]
  have hp : Uf.pick g low high = if (g.N (g.rt high)).siz < (g.N (g.rt low)).siz then (g.rt high, g.rt low) else (g.rt low, g.rt high) := rfl
  rw [hp]
  have c1 : g.rt i = g.rt high ↔ g.lo i = high := ⟨fun e => by rw [lo_of_rt e, eh], fun e => rt_of_lo h hi hh (by rw [e, eh])⟩
  have c2 : g.rt i = g.rt low ↔ g.lo i = low := ⟨fun e => by rw [lo_of_rt e, el], fun e => rt_of_lo h hi hl (by rw [e, el])⟩
  have fin : (if g.lo i = high ∨ g.lo i = low then low else g.lo i) = if g.lo i = high then low else g.lo i := by
    by_cases e : g.lo i = high
    · simp [e]
    · by_cases e2 : g.lo i = low
      · simp [e2]
      · simp [e, e2]
  split
  · rw [Uf.hang_lo _ _ _ _ hne.symm, l1, l2, ← fin]
    simp only [c1, c2]
    rw [Nat.min_eq_left (by omega)]
  · rw [Uf.hang_lo _ _ _ _ hne, l1, l2, ← fin]
    simp only [c1, c2]
    rw [Nat.min_eq_right (by omega)]
    simp only [or_comm]

theorem join_un (w : World) (base : Nat) (l : List Tm) (z : Zs) (P todo : List (Nat × Nat)) (p : Nat × Nat) (h : Un w base l z P (todo ++ [p]) []) (a b low high : Nat) (hp : p = (a, b) ∨ p = (b, a)) (ha : z.g.lo a = low) (hb : z.g.lo b = high) (hlt : low < high) :
    Calls Tryz.prog 39 #[.pointer (some ⟨z.pk, 0, none⟩), .int .i64 (low : Int), .int .i64 (high : Int)] w fun e w' => e = .returned (.tuple #[]) ∧ ∃ z' : Zs, Un w' base l z' P todo (z.us high) ∧ Went l w w' z z' ∧ z'.t.length = z.t.length + 1 ∧ z'.uv high = z.uv high ∧ z'.us high = z.us high := by
  have hin := h.inv.inr p (by simp)
  have hab : a < l.length ∧ b < l.length := by rcases hp with rfl | rfl <;> exact ⟨by first | exact hin.1 | exact hin.2, by first | exact hin.2 | exact hin.1⟩
  have hl : low < l.length := by have := h.inv.le a hab.1; omega
  have hh : high < l.length := by have := h.inv.le b hab.2; omega
  have el : z.g.lo low = low := by rw [← ha]; exact h.inv.idem a hab.1
  have eh : z.g.lo high = high := by rw [← hb]; exact h.inv.idem b hab.2
  obtain ⟨b1, b2⟩ := h.bound
  have hms := h.ms
  have hbs := h.bs
  have htd := h.td
  simp only [List.length_nil, List.length_append, List.length_cons, Nat.add_zero] at hms hbs htd
  have hlen := h.cz.len
  have u1 := h.inv.ulen h.cz.bd hl el
  have u2 := h.inv.ulen h.cz.bd hh eh
  obtain ⟨hj, hlo⟩ := joinG_lo h.cz.ok hl hh el eh hlt
  refine (join_in w base l z h.cz low high hl hh (by omega) (by omega) (by omega) h.low).mono ?_
  rintro e w' ⟨rfl, bc, bm, bo, bl, jv', st2, v', bv', _, _, _, _, _, C, K, G⟩
  have ht : (joinT l.length z.g z.t low high).length = z.t.length + 1 := by rw [joinT, hj]; simp
  refine ⟨rfl, _, ⟨C, h.inv.join h.cz.bd hp ha hb hlt hlo (fun r _ => rfl), ?_, ?_, ?_, Nat.le_trans h.low K.size⟩, ⟨K, G, .join _ _ _ _ _ _ _ _ _ _ (.refl z) hj hl (h.cz.usesAt low hl)⟩, ht, if_neg (by omega), if_neg (by omega)⟩
  · show z.ms + (z.us high).length ≤ l.length + (joinT l.length z.g z.t low high).length * (4 * l.length)
    rw [ht, Nat.add_mul]
    omega
  · show (z.bs ++ [_]).length + (z.us high).length ≤ (joinT l.length z.g z.t low high).length * (4 * l.length + 1)
    rw [ht, Nat.add_mul]
    simp
    omega
  · show todo.length + (z.us high).length ≤ 1 + (joinT l.length z.g z.t low high).length * (4 * l.length)
    rw [ht, Nat.add_mul]
    omega

end Go.Proofs.YtlehlgipbhfioaaGreat
