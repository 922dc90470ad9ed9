/- Package term: what takeOut leaves, plainly. Package term: clear of the end of a row of entries. Package term: takeOut. -/
import Derived.Test.YtinphcnknionmabP05
import Derived.Lib.SliceRun
namespace Go.Proofs.Ytinphcnknionmab
open Go.RowKit Go.Maps

/-- Number i stands yet, when j terms behind the first s have been taken out. -/
def standsB (s j i : Nat) : Bool := decide (i < s ∨ s + j ≤ i)

structure Out (l r : List Tm) (j : Nat) (Dn Df : DataW Unit) : Prop where
  nsize : Maps.size Dn + j = (l ++ r).length
  nsays : ∀ t : Tm, t.ok → Says Dn (ekey t) ((nix (l ++ r) t).filter (standsB l.length j))
  fsize : Maps.size Df = ((List.range (l ++ r).length).filter (fun i => isF (l ++ r) i && standsB l.length j i)).length
  fsays : ∀ n : ByteArray, n.size ≤ 6 → Says Df (skey n) ((fst (l ++ r) n).filter (standsB l.length j))

theorem stands0 (s i : Nat) : standsB s 0 i = true := by unfold standsB; exact decide_eq_true (by omega)
theorem filter_all {α : Type} (p : α → Bool) (h : ∀ x, p x = true) (o : Option α) : o.filter p = o := by cases o <;> simp [Option.filter, h]

theorem Out.start {l r : List Tm} {Dn Df : DataW Unit} (T : Tells (l ++ r) Dn Df) : Out l r 0 Dn Df := by
  refine ⟨T.nsize, fun t ht => ?_, ?_, fun n hn => ?_⟩
  · rw [filter_all _ (stands0 _)]; exact T.nsays t ht
  · rw [T.fsize]
    unfold cntF
    congr 1
    exact List.filter_congr (fun i _ => by rw [stands0]; simp)
  · rw [filter_all _ (stands0 _)]; exact T.fsays n hn

theorem nix_some {l : List Tm} {t : Tm} {i : Nat} (h : nix l t = some i) : l[i]? = some t := by
  obtain ⟨hi, hp, _⟩ := List.findIdx?_eq_some_iff_getElem.1 h
  rw [List.getElem?_eq_getElem hi, of_decide_eq_true hp]

theorem nix_at {l : List Tm} (hd : l.Nodup) {i : Nat} {t : Tm} (h : l[i]? = some t) : nix l t = some i := by
  obtain ⟨hi, e⟩ := List.getElem?_eq_some_iff.1 h
  cases hx : nix l t with
  | none => exact absurd (e ▸ List.getElem_mem hi) (nix_none hx)
  | some k =>
    obtain ⟨hk, ek⟩ := List.getElem?_eq_some_iff.1 (nix_some hx)
    have := (List.getElem_inj hd (h₀ := hk) (h₁ := hi)).1 (ek.trans e.symm)
    rw [this]

theorem stands_step {s j i : Nat} (h : i ≠ s + j) : standsB s (j + 1) i = standsB s j i := by
  unfold standsB
  exact decide_eq_decide.2 (by omega)
theorem stands_gone (s j : Nat) : standsB s (j + 1) (s + j) = false := decide_eq_false (by omega)
theorem stands_here (s j : Nat) : standsB s j (s + j) = true := decide_eq_true (by omega)

theorem filter_step {o : Option Nat} {s j : Nat} (h : o ≠ some (s + j)) : o.filter (standsB s (j + 1)) = o.filter (standsB s j) := by
  cases o with
  | none => rfl
  | some i =>
    have hi : i ≠ s + j := fun e => h (by rw [e])
    simp [Option.filter, stands_step hi]

/-- One term of the map of numbers. -/
theorem Out.nstep {l r : List Tm} {j : Nat} {Dn Df : DataW Unit} (O : Out l r j Dn Df) (hd : (l ++ r).Nodup) {e : Tm} (he : r[j]? = some e) (ho : e.ok) (hD : Tidy Dn) :
    Maps.size (Dn.del (ekey e)) + (j + 1) = (l ++ r).length ∧ ∀ t : Tm, t.ok → Says (Dn.del (ekey e)) (ekey t) ((nix (l ++ r) t).filter (standsB l.length (j + 1))) := by
  have ha : (l ++ r)[l.length + j]? = some e := by rw [List.getElem?_append_right (by omega)]; simpa using he
  have hn := nix_at hd ha
  constructor
  · have h1 := size_del (k := ekey e) hD
    have h2 := (O.nsays e ho).1
    rw [hn] at h2
    simp [Option.filter, stands_here] at h2
    rw [h2] at h1
    have := O.nsize
    simp at h1
    omega
  · intro t ht
    by_cases h : t = e
    · subst h
      rw [hn]
      simp only [Option.filter, stands_gone]
      exact Says.del_same
    · have hne : nix (l ++ r) t ≠ some (l.length + j) := fun x => by
        have := nix_some x
        rw [ha] at this
        exact h (Option.some.inj this).symm
      rw [filter_step hne]
      exact (O.nsays t ht).del_other (fun x => h (ekey_inj ht ho x))

theorem filter_count {n : Nat} {p q : Nat → Bool} {k : Nat} (hk : k < n) (hp : p k = true) (hq : q k = false) (h : ∀ i, i ≠ k → q i = p i) : ((List.range n).filter q).length + 1 = ((List.range n).filter p).length := by
  induction n with
  | zero => omega
  | succ n ih =>
    rw [List.range_succ, List.filter_append, List.filter_append, List.length_append, List.length_append]
    by_cases e : k = n
    · subst e
      have e1 : (List.range k).filter q = (List.range k).filter p := List.filter_congr (fun i hi => h i (by have := List.mem_range.1 hi; omega))
      simp [e1, hp, hq]
    · have := ih (by omega)
      have hn : q n = p n := h n (fun x => e x.symm)
      simp only [List.filter_cons, hn, List.filter_nil]
      omega

theorem fst_at {l : List Tm} {n : ByteArray} {i : Nat} (h : fst l n = some i) {t : Tm} (ht : l[i]? = some t) : t.name = n := by
  obtain ⟨u, hu, hn⟩ := fst_some h
  rw [ht] at hu
  rw [Option.some.inj hu]
  exact hn

/-- The term's name had its first number here: it goes. -/
theorem Out.fgone {l r : List Tm} {j : Nat} {Dn Df : DataW Unit} (O : Out l r j Dn Df) {e : Tm} (he : r[j]? = some e) (ho : e.ok) (hf : fst (l ++ r) e.name = some (l.length + j)) (hD : Tidy Df) :
    Maps.size (Df.del (skey e.name)) = ((List.range (l ++ r).length).filter (fun i => isF (l ++ r) i && standsB l.length (j + 1) i)).length ∧
      ∀ n : ByteArray, n.size ≤ 6 → Says (Df.del (skey e.name)) (skey n) ((fst (l ++ r) n).filter (standsB l.length (j + 1))) := by
  have ha : (l ++ r)[l.length + j]? = some e := by rw [List.getElem?_append_right (by omega)]; simpa using he
  have hlt : l.length + j < (l ++ r).length := (List.getElem?_eq_some_iff.1 ha).1
  constructor
  · have h1 := size_del (k := skey e.name) hD
    have h2 := (O.fsays e.name ho.name).1
    rw [hf] at h2
    simp [Option.filter, stands_here] at h2
    rw [h2] at h1
    have h3 := O.fsize
    have h4 : isF (l ++ r) (l.length + j) = true := by unfold isF; rw [ha]; exact decide_eq_true hf
    have h5 := filter_count (p := fun i => isF (l ++ r) i && standsB l.length j i) (q := fun i => isF (l ++ r) i && standsB l.length (j + 1) i) hlt (by simp [h4, stands_here]) (by simp [stands_gone]) (fun i hi => by simp only [stands_step hi])
    simp only [if_true] at h1
    omega
  · intro n hn
    by_cases h : n = e.name
    · subst h
      rw [hf]
      simp only [Option.filter, stands_gone]
      exact Says.del_same
    · have hne : fst (l ++ r) n ≠ some (l.length + j) := fun x => h (fst_at x ha).symm
      rw [filter_step hne]
      exact (O.fsays n hn).del_other (fun x => h (skey_inj x))

/-- It had not: nothing goes. -/
theorem Out.fstays {l r : List Tm} {j : Nat} {Dn Df : DataW Unit} (O : Out l r j Dn Df) {e : Tm} (he : r[j]? = some e) (hf : fst (l ++ r) e.name ≠ some (l.length + j)) :
    Maps.size Df = ((List.range (l ++ r).length).filter (fun i => isF (l ++ r) i && standsB l.length (j + 1) i)).length ∧
      ∀ n : ByteArray, n.size ≤ 6 → Says Df (skey n) ((fst (l ++ r) n).filter (standsB l.length (j + 1))) := by
  have ha : (l ++ r)[l.length + j]? = some e := by rw [List.getElem?_append_right (by omega)]; simpa using he
  constructor
  · rw [O.fsize]
    congr 1
    apply List.filter_congr
    intro i _
    by_cases h : i = l.length + j
    · subst h
      have : isF (l ++ r) (l.length + j) = false := by unfold isF; rw [ha]; exact decide_eq_false hf
      simp [this]
    · rw [stands_step h]
  · intro n hn
    have hne : fst (l ++ r) n ≠ some (l.length + j) := fun x => hf (by rw [fst_at x ha]; exact x)
    rw [filter_step hne]
    exact O.fsays n hn

/-- What a look at the name says: whether the number is its first. -/
theorem look_first {l r : List Tm} {j : Nat} {e : Tm} (he : r[j]? = some e) :
    (((fst (l ++ r) e.name).filter (standsB l.length j)).getD 0 = l.length + j) ↔ fst (l ++ r) e.name = some (l.length + j) := by
  have ha : (l ++ r)[l.length + j]? = some e := by rw [List.getElem?_append_right (by omega)]; simpa using he
  obtain ⟨i, hi⟩ := fst_mem (List.mem_of_getElem? ha)
  rw [hi]
  by_cases h : standsB l.length j i = true
  · simp [Option.filter, h]
  · have h' : standsB l.length j i = false := by simpa using h
    simp only [Option.filter, h']
    have h2 := of_decide_eq_false h'
    simp
    omega

theorem nix_app (l r : List Tm) (t : Tm) : (nix (l ++ r) t).filter (standsB l.length r.length) = nix l t := by
  unfold nix
  rw [List.findIdx?_append]
  cases h : List.findIdx? (fun x => decide (x = t)) l with
  | some i =>
    have hi : i < l.length := (List.findIdx?_eq_some_iff_getElem.1 h).1
    have : standsB l.length r.length i = true := decide_eq_true (by omega)
    simp [Option.filter, this]
  | none =>
    cases h2 : List.findIdx? (fun x => decide (x = t)) r with
    | none => rfl
    | some k =>
      have hk : k < r.length := (List.findIdx?_eq_some_iff_getElem.1 h2).1
      have : standsB l.length r.length (k + l.length) = false := decide_eq_false (by omega)
      simp [Option.filter, this]

theorem fst_app (l r : List Tm) (n : ByteArray) : (fst (l ++ r) n).filter (standsB l.length r.length) = fst l n := by
  unfold fst
  rw [List.findIdx?_append]
  cases h : List.findIdx? (fun x => decide (x.name = n)) l with
  | some i =>
    have hi : i < l.length := (List.findIdx?_eq_some_iff_getElem.1 h).1
    have : standsB l.length r.length i = true := decide_eq_true (by omega)
    simp [Option.filter, this]
  | none =>
    cases h2 : List.findIdx? (fun x => decide (x.name = n)) r with
    | none => rfl
    | some k =>
      have hk : k < r.length := (List.findIdx?_eq_some_iff_getElem.1 h2).1
      have : standsB l.length r.length (k + l.length) = false := decide_eq_false (by omega)
      simp [Option.filter, this]

theorem isF_app (l r : List Tm) {i : Nat} (hi : i < l.length) : isF (l ++ r) i = isF l i := by
  unfold isF
  rw [List.getElem?_append_left hi, List.getElem?_eq_getElem hi]
  obtain ⟨k, hk⟩ := fst_mem (List.getElem_mem hi)
  have e : fst (l ++ r) l[i].name = fst l l[i].name := by
    rw [hk]
    unfold fst at hk ⊢
    rw [List.findIdx?_append, hk]
    rfl
  simp only [e]

theorem count_app (l r : List Tm) : ((List.range (l ++ r).length).filter (fun i => isF (l ++ r) i && standsB l.length r.length i)).length = cntF l := by
  unfold cntF
  rw [List.length_append, List.range_add, List.filter_append, List.length_append]
  have e1 : (List.range l.length).filter (fun i => isF (l ++ r) i && standsB l.length r.length i) = (List.range l.length).filter (isF l) := List.filter_congr (fun i hi => by
    have h := List.mem_range.1 hi
    have : standsB l.length r.length i = true := decide_eq_true (by omega)
    rw [isF_app l r h, this]; simp)
  have e2 : ((List.range r.length).map (fun x => l.length + x)).filter (fun i => isF (l ++ r) i && standsB l.length r.length i) = [] := List.filter_eq_nil_iff.2 (fun i hi => by
    obtain ⟨k, hk, rfl⟩ := List.mem_map.1 hi
    have h := List.mem_range.1 hk
    have : standsB l.length r.length (l.length + k) = false := decide_eq_false (by omega)
    simp [this])
  rw [e1, e2]
  simp

/-- All of r is taken out: what is left says l. -/
theorem Out.done {l r : List Tm} {Dn Df : DataW Unit} (O : Out l r r.length Dn Df) (ho : ∀ t ∈ l, t.ok) (hd : l.Nodup) (hs : l.length ≤ 1000) : Tells l Dn Df := by
  refine ⟨?_, fun t ht => ?_, ?_, fun n hn => ?_, ho, hd, hs⟩
  · have := O.nsize
    simp at this
    omega
  · rw [← nix_app l r]; exact O.nsays t ht
  · rw [O.fsize]; exact count_app l r
  · rw [← fst_app l r]; exact O.fsays n hn

end Go.Proofs.Ytinphcnknionmab

namespace Go.Proofs.Ytinphcnknionmab
open Go.RowKit Go.Maps

/-- A row by what is ahead of its cut. -/
def RowTo (w : World) (base g cap k : Nat) (xs : List Value) : Prop :=
  ∃ cur, base ≤ g ∧ w.heap[g]? = some (.cells cur 128 (0, 0)) ∧ cap ≤ maxLen ∧ cur.size = cap * 6 ∧ cur.toList.take (k * 6) = xs

theorem RowTo.owns {w : World} {base g cap k : Nat} {xs : List Value} (h : RowTo w base g cap k xs) (hk : k ≤ cap) : w.ownsRow base 128 6 (.slice (some ⟨g, 0, none⟩) k cap) k xs := by
  obtain ⟨cur, h1, h2, h3, h4, h5⟩ := h
  refine ⟨?_, Or.inr ⟨g, cap, cur, rfl, h1, h2, hk, h3, h4, h5⟩⟩
  rw [← h5, List.length_take]
  simp [h4]
  omega

theorem RowTo.of {w : World} {base g cap n : Nat} {xs : List Value} (h : w.ownsRow base 128 6 (.slice (some ⟨g, 0, none⟩) n cap) n xs) {k : Nat} (hk : k ≤ n) : RowTo w base g cap k (xs.take (k * 6)) ∧ n ≤ cap := by
  rcases h.2 with ⟨e, _⟩ | ⟨g', cap', cur, e, h1, h2, h3, h4, h5, h6⟩
  · cases e
  · injection e with e1 e2 e3
    injection e1 with e1
    injection e1 with e1 _ _
    subst e1
    subst e3
    refine ⟨⟨cur, h1, h2, h4, h5, ?_⟩, h3⟩
    rw [← h6, List.take_take]
    congr 1
    omega

theorem RowTo.set {w : World} {base g cap k : Nat} {xs : List Value} (h : RowTo w base g cap k xs) {o : Nat} (ho : k * 6 ≤ o) (u : Value) : RowTo (w.setCell ⟨g, o, none⟩ u) base g cap k xs := by
  obtain ⟨cur, h1, h2, h3, h4, h5⟩ := h
  refine ⟨cur.setIfInBounds o u, h1, ?_, h3, by simpa using h4, ?_⟩
  · rw [setCell_eq_setRow w g o cur _ (0, 0) _ h2, setRow_heap w g _ _ _ _ h2]
  · rw [← h5]
    simp [List.take_set]
    rw [List.set_eq_of_length_le]
    simp
    omega

theorem RowTo.sets {base g cap k : Nat} {xs : List Value} : ∀ (vs : List Value) (o : Nat) (w : World), RowTo w base g cap k xs → k * 6 ≤ o → RowTo (w.setCells g o vs) base g cap k xs
  | [], _, _, h, _ => h
  | v :: vs, o, w, h, ho => RowTo.sets vs (o + 1) (w.setCell ⟨g, o, none⟩ v) (h.set ho v) (by omega)

/-- 'clear(s)' of elements of several cells. -/
theorem run_clear_many {P : Program} (w : World) (t e ty : TypeId) (z : Value) (ht : P.underlying t = some (.slice e)) (hv : ∀ w, (zeroValue e).run P w = .ok z w) (b o n c : Nat) (hn : 0 < n) (vs : List Value) (hvs : (Builtin.zeroCells z.cells n).toList = vs) (h1 : ∀ v ∈ vs, v.oneCell' = true)
    (hc : ∀ j, j < vs.length → (w.cell? ⟨b, o + j, none⟩).isSome = true) (hf : ∀ j, j < vs.length → w.frozen? ⟨b, o + j, none⟩ = false) :
    (Builtin.clear_ #[t] ty #[.slice (some ⟨b, o, none⟩) n c]).run P w = .ok (.tuple #[]) (w.setCells b o vs) := by
  have hst := run_storeCells_cells (P := P) b o vs 0 w (by simpa using hc) (by simpa using hf) h1
  simp only [Nat.add_zero] at hst
  obtain ⟨m, rfl⟩ : ∃ m, n = m + 1 := ⟨n - 1, by omega⟩
  simp [Builtin.clear_, run_underlying ht, hv, hvs, hst]

end Go.Proofs.Ytinphcnknionmab

namespace Go.Proofs.Ytinphcnknionmab
open Go.RowKit Go.Maps

/-- 'firsts[n]' without ok. -/
theorem Says.look1 {w : World} {k t : TypeId} {b : Nat} {D : DataW Unit} {key : Value} {kl : Lit} {o : Option Nat} (h : mapIs w k b D) (S : Says D kl o) (K : Keyed Try.prog k) (ht : Try.prog.underlying t = some (.map k 3)) (hkey : keyOf Try.prog k key = some kl) :
    (Instr.lookup t (.map (some b)) key false).run Try.prog w = .ok (.int .i64 ((o.getD 0 : Nat) : Int)) w := by
  obtain ⟨c, hrun, hat, _⟩ := World.ownsMap.lookup_int h K ht Try.underlying3 (zeroI w) hkey
  rw [S.2] at hat
  simp at hat
  rw [hrun, hat]

theorem Bq.dropN {w : World} {base p : Nat} {ev : Value} {nb fb : Nat} {l : List Tm} {Dn Df : DataW Unit} (h : Bq w base p ev nb fb l Dn Df) {t : Tm} (ht : t.ok) (ty : TypeId) :
    ∃ w', (Builtin.delete_ #[81, 128] ty #[.map (some nb), entryV t]).run Try.prog w = .ok (.tuple #[]) w' ∧ Bq w' base p ev nb fb l (Dn.del (ekey t)) Df ∧ Kept1 nb w w' := by
  obtain ⟨w', hr, ho, hturn⟩ := World.ownsMap.drop h.nums tLaw Try.underlying81 (ekey_of ht) ty
  have g := hturn.grown
  exact ⟨w', hr, ⟨h.bank.of_block (g.block p h.bank.lt (by simpa using h.pn)), h.rows.kept g (Or.inr h.en), mapIs_of ho, World.ownsMap.kept h.fsts g (by simpa using Ne.symm h.nf), h.pn, h.pf, h.nf, h.ep, h.en, h.ef, h.bp, h.bn, h.bf⟩, Kept1.of_grown g⟩

theorem Bq.dropF {w : World} {base p : Nat} {ev : Value} {nb fb : Nat} {l : List Tm} {Dn Df : DataW Unit} (h : Bq w base p ev nb fb l Dn Df) {s : ByteArray} (ht : s.size ≤ 6) (ty : TypeId) :
    ∃ w', (Builtin.delete_ #[82, 9] ty #[.map (some fb), .string s]).run Try.prog w = .ok (.tuple #[]) w' ∧ Bq w' base p ev nb fb l Dn (Df.del (skey s)) ∧ Kept1 fb w w' := by
  obtain ⟨w', hr, ho, hturn⟩ := World.ownsMap.drop h.fsts sLaw Try.underlying82 (skey_of ht) ty
  have g := hturn.grown
  exact ⟨w', hr, ⟨h.bank.of_block (g.block p h.bank.lt (by simpa using h.pf)), h.rows.kept g (Or.inr h.ef), World.ownsMap.kept h.nums g (by simpa using h.nf), mapIs_of ho, h.pn, h.pf, h.nf, h.ep, h.en, h.ef, h.bp, h.bn, h.bf⟩, Kept1.of_grown g⟩

theorem Bq.at {w : World} {base p : Nat} {ev : Value} {nb fb : Nat} {l : List Tm} {Dn Df : DataW Unit} (h : Bq w base p ev nb fb l Dn Df) {i : Nat} {t : Tm} (hi : l[i]? = some t) :
    ∃ g cap, ev = .slice (some ⟨g, 0, none⟩) l.length cap ∧ ∀ j u, (entryL t)[j]? = some u → w.cell? ⟨g, i * 6 + j, none⟩ = some u := by
  have hlt : i < l.length := (List.getElem?_eq_some_iff.1 hi).1
  rcases h.rows.2 with ⟨e, h0⟩ | ⟨b, cap, cur, e, _⟩
  · omega
  · refine ⟨b, cap, e, fun j u hj => ?_⟩
    have hj6 : j < 6 := by have := (List.getElem?_eq_some_iff.1 hj).1; simpa [entryL] using this
    have := h.rows.cells (g := b) (by rw [e]; rfl) (i * 6 + j) u (by rw [flat_getElem l i j hj6, hi]; exact hj)
    simp [Addr.add] at this
    split at this
    · next e0 => rw [e0.1, e0.2]; exact this
    · exact this

theorem Bq.grown {w w' : World} {base p : Nat} {ev : Value} {nb fb : Nat} {l : List Tm} {Dn Df : DataW Unit} {row : Option Nat} (h : Bq w base p ev nb fb l Dn Df) (K : w.grownBy w' row) (hp : some p ≠ row) (hn : some nb ≠ row) (hf : some fb ≠ row) (he : row = none ∨ ev.ownBlock ≠ row) : Bq w' base p ev nb fb l Dn Df :=
  ⟨h.bank.of_block (K.block p h.bank.lt hp), h.rows.kept K (he.elim (fun e => e ▸ Decidable.em (ev.ownBlock = none)) Or.inr), World.ownsMap.kept h.nums K hn, World.ownsMap.kept h.fsts K hf, h.pn, h.pf, h.nf, h.ep, h.en, h.ef, h.bp, h.bn, h.bf⟩
theorem Bq.kept0 {w w' : World} {base p : Nat} {ev : Value} {nb fb : Nat} {l : List Tm} {Dn Df : DataW Unit} (h : Bq w base p ev nb fb l Dn Df) (K : Kept0 w w') : Bq w' base p ev nb fb l Dn Df :=
  h.grown K.grownBy (by simp) (by simp) (by simp) (Or.inl rfl)

theorem Kept.setCells {S : Nat → Prop} {a : World} {g : Nat} (hg : S g) : ∀ (vs : List Value) (o : Nat) (w : World), Kept S a w → Kept S a (w.setCells g o vs)
  | [], _, _, h => h
  | v :: vs, o, _, h => Kept.setCells hg vs (o + 1) _ (Kept.setCell (p := ⟨g, o, none⟩) h hg v)

theorem flat_take (l r : List Tm) : ((l ++ r).flatMap entryL).take (l.length * 6) = l.flatMap entryL := by
  have hl : (l.flatMap entryL).length = l.length * 6 := by
    induction l with
    | nil => rfl
    | cons t l ih => rw [List.flatMap_cons, List.length_append, ih]; simp [entryL]; omega
  rw [List.flatMap_append, ← hl, List.take_left]

/-- The row is cut behind l. -/
theorem Bq.cut {w : World} {base p g ec : Nat} {nb fb : Nat} {l r : List Tm} {Dn Df : DataW Unit} (h : Bq w base p (.slice (some ⟨g, 0, none⟩) (l ++ r).length ec) nb fb (l ++ r) Dn Df) (vs : List Value) :
    Bq ((w.setCells g (l.length * 6) vs).setCell ⟨p, 0, none⟩ (.slice (some ⟨g, 0, none⟩) l.length ec)) base p (.slice (some ⟨g, 0, none⟩) l.length ec) nb fb l Dn Df ∧
      Kept (BFoot p (.slice (some ⟨g, 0, none⟩) (l ++ r).length ec) nb fb) w ((w.setCells g (l.length * 6) vs).setCell ⟨p, 0, none⟩ (.slice (some ⟨g, 0, none⟩) l.length ec)) ∧
      (w.setCells g (l.length * 6) vs).cell? ⟨p, 0, none⟩ = some (.slice (some ⟨g, 0, none⟩) (l ++ r).length ec) ∧ (w.setCells g (l.length * 6) vs).frozen? ⟨p, 0, none⟩ = false := by
  obtain ⟨R0, hle⟩ := RowTo.of h.rows (k := l.length) (by simp)
  rw [flat_take] at R0
  have R1 := RowTo.sets vs (l.length * 6) w R0 (Nat.le_refl _)
  have hgp : p ≠ g := fun e => h.ep (by rw [e]; rfl)
  have hgn : nb ≠ g := fun e => h.en (by rw [e]; rfl)
  have hgf : fb ≠ g := fun e => h.ef (by rw [e]; rfl)
  have K1 : Kept1 g w (w.setCells g (l.length * 6) vs) := Kept.setCells (S := fun k => k = g) rfl vs _ w (Kept.refl _ w)
  have hb : (w.setCells g (l.length * 6) vs).rowIs p 85 3 (bankC (.slice (some ⟨g, 0, none⟩) (l ++ r).length ec) nb fb) := h.bank.of_block (K1.block p h.bank.lt hgp)
  have n1 : mapIs (w.setCells g (l.length * 6) vs) 128 nb Dn := World.ownsMap.kept h.nums K1.grownBy (by simpa using hgn)
  have f1 : mapIs (w.setCells g (l.length * 6) vs) 9 fb Df := World.ownsMap.kept h.fsts K1.grownBy (by simpa using hgf)
  have r1 := R1.owns (by simp at hle; omega)
  refine ⟨⟨(hb.set 0 _).congr ?_, ownsRow_setCell_other (a := ⟨p, 0, none⟩) r1 h.ep _, World.ownsMap.setCell n1 (Ne.symm h.pn) _, World.ownsMap.setCell f1 (Ne.symm h.pf) _, h.pn, h.pf, h.nf, h.ep, h.en, h.ef, h.bp, h.bn, h.bf⟩, ?_, hb.cell (i := 0) (by omega), hb.frozen 0⟩
  · intro i hi
    rcases (by omega : i = 0 ∨ i = 1 ∨ i = 2) with rfl | rfl | rfl <;> simp [bankC]
  · exact Kept.setCell (S := BFoot p (.slice (some ⟨g, 0, none⟩) (l ++ r).length ec) nb fb) (p := ⟨p, 0, none⟩) (Kept.mono K1 (fun k _ x => Or.inr (Or.inr (Or.inr (by rw [x]; rfl))))) (Or.inl rfl) _

theorem Bq.reset {w : World} {base p : Nat} {ev : Value} {nb fb : Nat} {l : List Tm} {Dn Df : DataW Unit} (h : Bq w base p ev nb fb l Dn Df) : Bq (w.setCell ⟨p, 0, none⟩ ev) base p ev nb fb l Dn Df := by
  refine ⟨(h.bank.set 0 ev).congr ?_, ownsRow_setCell_other (a := ⟨p, 0, none⟩) h.rows h.ep _, World.ownsMap.setCell h.nums (Ne.symm h.pn) _, World.ownsMap.setCell h.fsts (Ne.symm h.pf) _, h.pn, h.pf, h.nf, h.ep, h.en, h.ef, h.bp, h.bn, h.bf⟩
  intro i hi
  rcases (by omega : i = 0 ∨ i = 1 ∨ i = 2) with rfl | rfl | rfl <;> simp [bankC]

theorem RowTo.row {w : World} {base g cap k : Nat} {xs : List Value} (h : RowTo w base g cap k xs) : ∃ f, w.rowIs g 128 (cap * 6) f := by
  obtain ⟨cur, _, h2, _, h4, _⟩ := h
  refine ⟨fun i => cur[i]?.getD undef, cur, h2, h4, ?_⟩
  intro i hi
  have hc : i < cur.size := by omega
  simp [Array.getElem?_eq_getElem hc]

theorem zeros_one (n : Nat) : ∀ v ∈ (Builtin.zeroCells (Value.agg #[.string ⟨#[]⟩, .int .i64 0, .int .i64 0, .int .i64 0, .int .i64 0, .int .i64 0]).cells n).toList, v.oneCell' = true := by
  intro v hv
  simp [Builtin.zeroCells, Value.cells] at hv
  obtain ⟨i, _, rfl⟩ := hv
  rcases (by omega : i % 6 = 0 ∨ i % 6 = 1 ∨ i % 6 = 2 ∨ i % 6 = 3 ∨ i % 6 = 4 ∨ i % 6 = 5) with e | e | e | e | e | e <;> rw [e] <;> rfl
theorem zeros_len (n : Nat) : (Builtin.zeroCells (Value.agg #[.string ⟨#[]⟩, .int .i64 0, .int .i64 0, .int .i64 0, .int .i64 0, .int .i64 0]).cells n).toList.length = n * 6 := by
  simp [Builtin.zeroCells, Value.cells]

theorem run_clear_none {P : Program} (w : World) (t e ty : TypeId) (ht : P.underlying t = some (.slice e)) (a : Option Addr) (c : Nat) : (Builtin.clear_ #[t] ty #[.slice a 0 c]).run P w = .ok (.tuple #[]) w := by
  cases a <;> simp [Builtin.clear_, run_underlying ht]

set_option maxHeartbeats 1000000 in
theorem takeOut_in (w : World) (base p : Nat) (ev : Value) (nb fb : Nat) (l r : List Tm) (h : Bk w base p ev nb fb (l ++ r)) :
    Calls Try.prog 76 #[.pointer (some ⟨p, 0, none⟩), .int .i64 (l.length : Int)] w fun e w' => e = .returned (.tuple #[]) ∧ ∃ ev', Bk w' base p ev' nb fb l ∧ ev'.ownBlock = ev.ownBlock ∧ Kept (BFoot p ev nb fb) w w' := by
  have hsm := h.small
  have hoks := h.oks
  have hnd := h.nodup
  obtain ⟨ea, ec, rfl⟩ := h.eform
  obtain ⟨Dn, Df, hq, T⟩ := h.split
  clear h
  rw [List.length_append] at hsm
  go_enter Try.func76, Try.ntmps76
  go_wp2_with fail
  go_loopw [4] (fun t W => ∃ j : Nat, j ≤ r.length ∧ t = .int .i64 ((l.length + j : Nat) : Int) ∧ ∃ Dn Df, Bq W base p (.slice ea (l ++ r).length ec) nb fb (l ++ r) Dn Df ∧ Out l r j Dn Df ∧ Hid (Kept (BFoot p (.slice ea (l ++ r).length ec) nb fb) w W)) (fun t _ => (l ++ r).length - (intOf t).toNat)
  case atStart => exact ⟨0, by omega, by simp, Dn, Df, hq, Out.start T, Kept.refl _ w⟩
  case round =>
    clear hq T Dn Df
    obtain ⟨j, hj, rfl, Dn, Df, Q, O, K⟩ := hrel
    have c0 : wr.cell? ⟨p, 0, none⟩ = some (.slice ea (l ++ r).length ec) := Q.bank.cell (by omega)
    have c1 : wr.cell? ⟨p, 1, none⟩ = some (.map (some nb)) := Q.bank.cell (i := 1) (by omega)
    have c2 : wr.cell? ⟨p, 2, none⟩ = some (.map (some fb)) := Q.bank.cell (i := 2) (by omega)
    have hll : (l ++ r).length = l.length + r.length := List.length_append
    by_cases hjr : j < r.length
    · have hre : r[j]? = some r[j] := List.getElem?_eq_getElem hjr
      generalize hgen : r[j] = e at hre
      have hae : (l ++ r)[l.length + j]? = some e := by rw [List.getElem?_append_right (by omega)]; simpa using hre
      have hok : e.ok := hoks e (List.mem_of_getElem? hae)
      obtain ⟨g, cap, hgc, hg⟩ := Q.at hae
      injection hgc with hg1 _ hg3
      subst hg1
      subst hg3
      have g0 : wr.cell? ⟨g, (l.length + j) * 6, none⟩ = some (.string e.name) := hg 0 _ rfl
      have g1 := hg 1 _ rfl
      have g2 := hg 2 _ rfl
      have g3 := hg 3 _ rfl
      have g4 := hg 4 _ rfl
      have g5 := hg 5 _ rfl
      clear hg
      go_wp2_with fail
      clear g0 g1 g2 g3 g4 g5 c0 c1 c2
      have bR := boxed_row wr e
      have hEL : (entryL e).toArray = #[.string e.name, .int .i64 (e.args.length : Int), .int .i64 (e.arg 0 : Int), .int .i64 (e.arg 1 : Int), .int .i64 (e.arg 2 : Int), .int .i64 (e.arg 3 : Int)] := rfl
      rw [hEL] at bR
      generalize hw1 : wr.alloc (Obj.cells #[.string e.name, .int .i64 (e.args.length : Int), .int .i64 (e.arg 0 : Int), .int .i64 (e.arg 1 : Int), .int .i64 (e.arg 2 : Int), .int .i64 (e.arg 3 : Int)] 128) = w1 at bR ⊢
      have K1 : Kept0 wr w1 := hw1 ▸ Kept.alloc (Kept.refl _ wr) _
      clear hw1
      have Q1 := Q.kept0 K1
      have hnl := World.ownsMap.lt Q.nums
      have hfl := World.ownsMap.lt Q.fsts
      generalize wr.heap.size = bx at *
      have c1 : w1.cell? ⟨p, 1, none⟩ = some (.map (some nb)) := Q1.bank.cell (i := 1) (by omega)
      have y0 := bR.c0
      have y1 := bR.c1
      have y2 := bR.c2
      have y3 := bR.c3
      have y4 := bR.c4
      have y5 := bR.c5
      obtain ⟨w2, hr2, Q2, K2⟩ := Bq.dropN Q1.drew hok 0
      simp only [entryV, hEL] at hr2
      go_region
      clear hr2 y0 y1 y2 y3 y4 y5 c1
      have b2 : Boxed w2 bx e := World.rowIs.of_block (World.rowIs.of_block bR rfl : Boxed w1.drew bx e) (K2.block bx (World.rowIs.lt bR) (by omega))
      have y0 := b2.c0
      have c2 : w2.cell? ⟨p, 2, none⟩ = some (.map (some fb)) := Q2.bank.cell (i := 2) (by omega)
      have LF := fun m => Says.look1 (Q2.drewN m).fsts (O.fsays e.name hok.name) sLaw Try.underlying82 (skey_of hok.name)
      have hlook := look_first (l := l) hre
      obtain ⟨N1, N2⟩ := O.nstep hnd hre hok (World.ownsMap.tidy Q.nums tLaw)
      generalize ((fst (l ++ r) e.name).filter (standsB l.length j)).getD 0 = f at *
      have KK : Kept (BFoot p (.slice (some ⟨g, 0, none⟩) (l ++ r).length ec) nb fb) w w2 := ((Kept.trans K (Kept.mono K1 (fun _ _ x => x.elim))).drew).trans (Kept.mono K2 (fun _ _ x => Or.inr (Or.inl x)))
      by_cases hf : f = l.length + j
      · have hf1 := hlook.1 hf
        have hb : ((f : Int) == (l.length : Int) + (j : Int)) = true := by simp; omega
        go_wp2_with fail
        go_quiet (fail)
        go_wp2_with fail
        have z0 : ∀ m, (w2.drewN m).cell? ⟨bx, 0, none⟩ = some (.string e.name) := fun m => y0
        have z2 : ∀ m, (w2.drewN m).cell? ⟨p, 2, none⟩ = some (.map (some fb)) := fun m => c2
        obtain ⟨F1, F2⟩ := O.fgone hre hok hf1 (World.ownsMap.tidy Q.fsts sLaw)
        obtain ⟨w3, hr3, Q3, K3⟩ := Bq.dropF (Q2.drewN (nq + 1)) hok.name 0
        go_region
        all_goals
          go_wp2_with fail
          refine ⟨⟨j + 1, by omega, by simp; omega, _, _, Q3, ⟨N1, N2, F1, F2⟩, (Kept.drewN KK _).trans (Kept.mono K3 (fun _ _ x => Or.inr (Or.inr (Or.inl x))))⟩, ?_⟩
          simp only [intOf]
          omega
      · have hf1 : fst (l ++ r) e.name ≠ some (l.length + j) := fun x => hf (hlook.2 x)
        have hb : ((f : Int) == (l.length : Int) + (j : Int)) = false := by simp; omega
        go_wp2_with fail
        go_quiet (fail)
        go_wp2_with fail
        obtain ⟨F1, F2⟩ := O.fstays hre hf1
        refine ⟨⟨j + 1, by omega, by simp; omega, _, _, Q2.drewN nq, ⟨N1, N2, F1, F2⟩, Kept.drewN KK nq⟩, ?_⟩
        simp only [intOf]
        omega
    · have hjr' : j = r.length := by omega
      subst hjr'
      have TT := O.done (fun t ht => hoks t (List.mem_append_left r ht)) (List.nodup_append.1 hnd).1 (by omega)
      have f0 := Q.bank.frozen 0
      rcases Q.rows.2 with ⟨ee, h0⟩ | ⟨g, cap, cur, ee, _, _, hcap, hcm, _⟩
      · have hl0 : l = [] := List.eq_nil_of_length_eq_zero (by rw [hll] at h0; omega)
        have hr0 : r = [] := List.eq_nil_of_length_eq_zero (by rw [hll] at h0; omega)
        subst hl0
        subst hr0
        injection ee with e1 e2 e3
        subst e1
        subst e3
        have hcl := fun (a : Option Addr) (c : Nat) => run_clear_none (P := Try.prog) wr 83 128 0 Try.underlying83 a c
        go_wp2_with fail
        go_end0
        exact ⟨rfl, _, (Q.reset).whole TT, rfl, Kept.setCell (p := ⟨p, 0, none⟩) K (Or.inl rfl) _⟩
      · injection ee with e1 e2 e3
        subst e1
        subst e3
        obtain ⟨C1, C2, C3, C4⟩ := Q.cut []
        by_cases hr0 : r.length = 0
        · have hcl := fun (a : Option Addr) (c : Nat) => run_clear_none (P := Try.prog) wr 83 128 0 Try.underlying83 a c
          have hr00 : r = [] := List.eq_nil_of_length_eq_zero hr0
          subst hr00
          by_cases hec : l.length = ec
          · subst hec
            go_wp2_with fail
            go_end0
            exact ⟨rfl, _, C1.whole TT, rfl, Kept.trans K C2⟩
          · go_wp2_with fail
            go_end0
            exact ⟨rfl, _, C1.whole TT, rfl, Kept.trans K C2⟩
        · clear C1 C2 C3 C4
          have hcap' : l.length < ec := by rw [hll] at hcap; omega
          obtain ⟨FF, HF⟩ := (RowTo.of Q.rows (k := 0) (by omega)).1.row
          have CL : (Builtin.clear_ #[83] 0 #[.slice (some ⟨g, l.length * 6, none⟩) r.length (ec - l.length)]).run Try.prog wr = .ok (.tuple #[]) (wr.setCells g (l.length * 6) (Builtin.zeroCells (Value.agg #[.string ⟨#[]⟩, .int .i64 0, .int .i64 0, .int .i64 0, .int .i64 0, .int .i64 0]).cells r.length).toList) :=
            run_clear_many wr 83 128 0 _ Try.underlying83 Try.zeroValue128 g (l.length * 6) r.length _ (by omega) _ rfl (zeros_one _) (fun i hi => by rw [zeros_len] at hi; rw [World.rowIs.cell HF (by rw [hll] at hcap; omega)]; rfl) (fun i _ => World.rowIs.frozen HF _)
          generalize (Builtin.zeroCells (Value.agg #[.string ⟨#[]⟩, .int .i64 0, .int .i64 0, .int .i64 0, .int .i64 0, .int .i64 0]).cells r.length).toList = vs at CL
          obtain ⟨C1, C2, C3, C4⟩ := Q.cut vs
          have hne : ¬ l.length = ec := by omega
          go_wp2_with fail
          go_end0
          exact ⟨rfl, _, C1.whole TT, rfl, Kept.trans K C2⟩

end Go.Proofs.Ytinphcnknionmab
