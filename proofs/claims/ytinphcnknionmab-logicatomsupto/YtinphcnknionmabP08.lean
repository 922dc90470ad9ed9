/- Package term: add as one; New. Package term: what takeOut leaves, plainly. Package term: clear of the end of a row of entries. -/
import Derived.Test.YtinphcnknionmabTermG
import Derived.Lib.SliceRun
namespace Go.Proofs.Ytinphcnknionmab
open Go.RowKit Go.Maps

theorem add_in (w : World) (base p : Nat) (ev : Value) (nb fb : Nat) (l : List Tm) (h : Bk w base p ev nb fb l) (t : Tm) (ht : t.ok) (hlt : l.length < 1000) (hbase : base ≤ w.heap.size) :
    Calls Try.prog 84 #[.pointer (some ⟨p, 0, none⟩), entryV t] w fun e w' => e = .returned (.int .i64 (addN l t : Int)) ∧ ∃ ev', Bk w' base p ev' nb fb (addL l t) ∧ Kept (BFoot p ev nb fb) w w' ∧ (ev'.ownBlock = ev.ownBlock ∨ ∀ k, ev'.ownBlock = some k → w.heap.size ≤ k) := by
  cases hi : nix l t with
  | some i =>
    refine (add_old w base p ev nb fb l h t ht i hi).mono ?_
    rintro e w' ⟨rfl, H, K⟩
    exact ⟨by simp [addN, hi], ev, by simpa [addL, hi] using H, Kept.mono K (fun _ _ x => x.elim), Or.inl rfl⟩
  | none =>
    refine (add_new w base p ev nb fb l h t ht hi hlt hbase).mono ?_
    rintro e w' ⟨rfl, ev', H, K, L⟩
    exact ⟨by simp [addN, hi], ev', by simpa [addL, hi] using H, K, L⟩

theorem Tells.empty : Tells [] (.map []) (.map []) :=
  ⟨rfl, fun t _ => ⟨rfl, rfl⟩, rfl, fun n _ => ⟨rfl, rfl⟩, by simp, List.nodup_nil, by simp⟩

theorem made_bank (w : World) : Bk (((w.alloc (Obj.map #[] 0)).alloc (Obj.map #[] 0)).alloc (Obj.cells #[.slice none 0 0, .map (some w.heap.size), .map (some (w.heap.size + 1))] 85)) w.heap.size (w.heap.size + 1 + 1) (.slice none 0 0) w.heap.size (w.heap.size + 1) [] := by
  have h1 : (w.alloc (Obj.map #[] 0)).heap.size = w.heap.size + 1 := by simp
  have h2 : ((w.alloc (Obj.map #[] 0)).alloc (Obj.map #[] 0)).heap.size = w.heap.size + 1 + 1 := by simp
  have m1 := World.ownsMap_made (H := Unit) w Try.prog 128 (plainElem Try.prog 3)
  have m2 := World.ownsMap_made (H := Unit) (w.alloc (Obj.map #[] 0)) Try.prog 9 (plainElem Try.prog 3)
  have r := made_row ((w.alloc (Obj.map #[] 0)).alloc (Obj.map #[] 0)) #[.slice none 0 0, .map (some w.heap.size), .map (some (w.heap.size + 1))] 85
  rw [h1] at m2
  rw [h2] at r
  refine Bq.whole (Dn := .map []) (Df := .map []) ⟨World.rowIs.congr r ?_, World.ownsRow_nil _ _ _ _, mapIs_of ((m1.alloc _).alloc _), mapIs_of (m2.alloc _), by omega, by omega, by omega, by simp [Value.ownBlock], by simp [Value.ownBlock], by simp [Value.ownBlock], by omega, by omega, by omega⟩ Tells.empty
  intro i hi
  have hi' : i < 3 := hi
  rcases (by omega : i = 0 ∨ i = 1 ∨ i = 2) with rfl | rfl | rfl <;> rfl

set_option maxHeartbeats 400000 in
theorem tNew_any (w : World) :
    Calls Try.prog 23 #[] w fun e w' => ∃ p nb fb, e = .returned (.pointer (some ⟨p, 0, none⟩)) ∧ Bk w' w.heap.size p (.slice none 0 0) nb fb [] ∧ Below w.heap.size w w' := by
  have hmm := @run_makeMap Try.prog
  go_enter Try.func23, Try.ntmps23
  go_wp2_with fail
  go_ret
  refine ⟨_, _, _, rfl, made_bank w, ?_⟩
  exact Kept.below (((Kept.refl (fun _ => False) w).alloc _ |>.alloc _).alloc _) (Nat.le_refl _) (fun _ x => x.elim)

end Go.Proofs.Ytinphcnknionmab

namespace Go.Proofs.Ytinphcnknionmab
open Go.RowKit Go.Maps

/-- Number i stands yet, when j terms behind the first s have been taken out. -/
def standsB (s j i : Nat) : Bool := decide (i < s ∨ s + j ≤ i)

structure Out (l r : List Tm) (j : Nat) (Dn Df : DataW Unit) : Prop where
  nsize : Maps.size Dn + j = (l ++ r).length
  nsays : ∀ t : Tm, t.ok → Says Dn (ekey t) ((nix (l ++ r) t).filter (standsB l.length j))
  fsize : Maps.size Df = ((List.range (l ++ r).length).filter (fun i => isF (l ++ r) i && standsB l.length j i)).length
  fsays : ∀ n : ByteArray, n.size ≤ 6 → Says Df (skey n) ((fst (l ++ r) n).filter (standsB l.length j))

theorem stands0 (s i : Nat) : standsB s 0 i = true := by unfold standsB; exact decide_eq_true (by omega)
theorem filter_all {α : Type} (p : α → Bool) (h : ∀ x, p x = true) (o : Option α) : o.filter p = o := by cases o <;> simp [Option.filter, h]

theorem Out.start {l r : List Tm} {Dn Df : DataW Unit} (T : Tells (l ++ r) Dn Df) : Out l r 0 Dn Df := by
  refine ⟨T.nsize, fun t ht => ?_, ?_, fun n hn => ?_⟩
  · rw [filter_all _ (stands0 _)]; exact T.nsays t ht
  · rw [T.fsize]
    unfold cntF
    congr 1
    exact List.filter_congr (fun i _ => by rw [stands0]; simp)
  · rw [filter_all _ (stands0 _)]; exact T.fsays n hn

theorem nix_some {l : List Tm} {t : Tm} {i : Nat} (h : nix l t = some i) : l[i]? = some t := by
  obtain ⟨hi, hp, _⟩ := List.findIdx?_eq_some_iff_getElem.1 h
  rw [List.getElem?_eq_getElem hi, of_decide_eq_true hp]

theorem nix_at {l : List Tm} (hd : l.Nodup) {i : Nat} {t : Tm} (h : l[i]? = some t) : nix l t = some i := by
  obtain ⟨hi, e⟩ := List.getElem?_eq_some_iff.1 h
  cases hx : nix l t with
  | none => exact absurd (e ▸ List.getElem_mem hi) (nix_none hx)
  | some k =>
    obtain ⟨hk, ek⟩ := List.getElem?_eq_some_iff.1 (nix_some hx)
    have := (List.getElem_inj hd (h₀ := hk) (h₁ := hi)).1 (ek.trans e.symm)
    rw [this]

theorem stands_step {s j i : Nat} (h : i ≠ s + j) : standsB s (j + 1) i = standsB s j i := by
  unfold standsB
  exact decide_eq_decide.2 (by omega)
theorem stands_gone (s j : Nat) : standsB s (j + 1) (s + j) = false := decide_eq_false (by omega)
theorem stands_here (s j : Nat) : standsB s j (s + j) = true := decide_eq_true (by omega)

theorem filter_step {o : Option Nat} {s j : Nat} (h : o ≠ some (s + j)) : o.filter (standsB s (j + 1)) = o.filter (standsB s j) := by
  cases o with
  | none => rfl
  | some i =>
    have hi : i ≠ s + j := fun e => h (by rw [e])
    simp [Option.filter, stands_step hi]

/-- One term of the map of numbers. -/
theorem Out.nstep {l r : List Tm} {j : Nat} {Dn Df : DataW Unit} (O : Out l r j Dn Df) (hd : (l ++ r).Nodup) {e : Tm} (he : r[j]? = some e) (ho : e.ok) (hD : Tidy Dn) :
    Maps.size (Dn.del (ekey e)) + (j + 1) = (l ++ r).length ∧ ∀ t : Tm, t.ok → Says (Dn.del (ekey e)) (ekey t) ((nix (l ++ r) t).filter (standsB l.length (j + 1))) := by
  have ha : (l ++ r)[l.length + j]? = some e := by rw [List.getElem?_append_right (by omega)]; simpa using he
  have hn := nix_at hd ha
  constructor
  · have h1 := size_del (k := ekey e) hD
    have h2 := (O.nsays e ho).1
    rw [hn] at h2
    simp [Option.filter, stands_here] at h2
    rw [h2] at h1
    have := O.nsize
    simp at h1
    omega
  · intro t ht
    by_cases h : t = e
    · subst h
      rw [hn]
      simp only [Option.filter, stands_gone]
      exact Says.del_same
    · have hne : nix (l ++ r) t ≠ some (l.length + j) := fun x => by
        have := nix_some x
        rw [ha] at this
        exact h (Option.some.inj this).symm
      rw [filter_step hne]
      exact (O.nsays t ht).del_other (fun x => h (ekey_inj ht ho x))

theorem filter_count {n : Nat} {p q : Nat → Bool} {k : Nat} (hk : k < n) (hp : p k = true) (hq : q k = false) (h : ∀ i, i ≠ k → q i = p i) : ((List.range n).filter q).length + 1 = ((List.range n).filter p).length := by
  induction n with
  | zero => omega
  | succ n ih =>
    rw [List.range_succ, List.filter_append, List.filter_append, List.length_append, List.length_append]
    by_cases e : k = n
    · subst e
      have e1 : (List.range k).filter q = (List.range k).filter p := List.filter_congr (fun i hi => h i (by have := List.mem_range.1 hi; omega))
      simp [e1, hp, hq]
    · have := ih (by omega)
      have hn : q n = p n := h n (fun x => e x.symm)
      simp only [List.filter_cons, hn, List.filter_nil]
      omega

theorem fst_at {l : List Tm} {n : ByteArray} {i : Nat} (h : fst l n = some i) {t : Tm} (ht : l[i]? = some t) : t.name = n := by
  obtain ⟨u, hu, hn⟩ := fst_some h
  rw [ht] at hu
  rw [Option.some.inj hu]
  exact hn

/-- The term's name had its first number here: it goes. -/
theorem Out.fgone {l r : List Tm} {j : Nat} {Dn Df : DataW Unit} (O : Out l r j Dn Df) {e : Tm} (he : r[j]? = some e) (ho : e.ok) (hf : fst (l ++ r) e.name = some (l.length + j)) (hD : Tidy Df) :
    Maps.size (Df.del (skey e.name)) = ((List.range (l ++ r).length).filter (fun i => isF (l ++ r) i && standsB l.length (j + 1) i)).length ∧
      ∀ n : ByteArray, n.size ≤ 6 → Says (Df.del (skey e.name)) (skey n) ((fst (l ++ r) n).filter (standsB l.length (j + 1))) := by
  have ha : (l ++ r)[l.length + j]? = some e := by rw [List.getElem?_append_right (by omega)]; simpa using he
  have hlt : l.length + j < (l ++ r).length := (List.getElem?_eq_some_iff.1 ha).1
  constructor
  · have h1 := size_del (k := skey e.name) hD
    have h2 := (O.fsays e.name ho.name).1
    rw [hf] at h2
    simp [Option.filter, stands_here] at h2
    rw [h2] at h1
    have h3 := O.fsize
    have h4 : isF (l ++ r) (l.length + j) = true := by unfold isF; rw [ha]; exact decide_eq_true hf
    have h5 := filter_count (p := fun i => isF (l ++ r) i && standsB l.length j i) (q := fun i => isF (l ++ r) i && standsB l.length (j + 1) i) hlt (by simp [h4, stands_here]) (by simp [stands_gone]) (fun i hi => by simp only [stands_step hi])
    simp only [if_true] at h1
    omega
  · intro n hn
    by_cases h : n = e.name
    · subst h
      rw [hf]
      simp only [Option.filter, stands_gone]
      exact Says.del_same
    · have hne : fst (l ++ r) n ≠ some (l.length + j) := fun x => h (fst_at x ha).symm
      rw [filter_step hne]
      exact (O.fsays n hn).del_other (fun x => h (skey_inj x))

/-- It had not: nothing goes. -/
theorem Out.fstays {l r : List Tm} {j : Nat} {Dn Df : DataW Unit} (O : Out l r j Dn Df) {e : Tm} (he : r[j]? = some e) (hf : fst (l ++ r) e.name ≠ some (l.length + j)) :
    Maps.size Df = ((List.range (l ++ r).length).filter (fun i => isF (l ++ r) i && standsB l.length (j + 1) i)).length ∧
      ∀ n : ByteArray, n.size ≤ 6 → Says Df (skey n) ((fst (l ++ r) n).filter (standsB l.length (j + 1))) := by
  have ha : (l ++ r)[l.length + j]? = some e := by rw [List.getElem?_append_right (by omega)]; simpa using he
  constructor
  · rw [O.fsize]
    congr 1
    apply List.filter_congr
    intro i _
    by_cases h : i = l.length + j
    · subst h
      have : isF (l ++ r) (l.length + j) = false := by unfold isF; rw [ha]; exact decide_eq_false hf
      simp [this]
    · rw [stands_step h]
  · intro n hn
    have hne : fst (l ++ r) n ≠ some (l.length + j) := fun x => hf (by rw [fst_at x ha]; exact x)
    rw [filter_step hne]
    exact O.fsays n hn

/-- What a look at the name says: whether the number is its first. -/
theorem look_first {l r : List Tm} {j : Nat} {e : Tm} (he : r[j]? = some e) :
    (((fst (l ++ r) e.name).filter (standsB l.length j)).getD 0 = l.length + j) ↔ fst (l ++ r) e.name = some (l.length + j) := by
  have ha : (l ++ r)[l.length + j]? = some e := by rw [List.getElem?_append_right (by omega)]; simpa using he
  obtain ⟨i, hi⟩ := fst_mem (List.mem_of_getElem? ha)
  rw [hi]
  by_cases h : standsB l.length j i = true
  · simp [Option.filter, h]
  · have h' : standsB l.length j i = false := by simpa using h
    simp only [Option.filter, h']
    have h2 := of_decide_eq_false h'
    simp
    omega

theorem nix_app (l r : List Tm) (t : Tm) : (nix (l ++ r) t).filter (standsB l.length r.length) = nix l t := by
  unfold nix
  rw [List.findIdx?_append]
  cases h : List.findIdx? (fun x => decide (x = t)) l with
  | some i =>
    have hi : i < l.length := (List.findIdx?_eq_some_iff_getElem.1 h).1
    have : standsB l.length r.length i = true := decide_eq_true (by omega)
    simp [Option.filter, this]
  | none =>
    cases h2 : List.findIdx? (fun x => decide (x = t)) r with
    | none => rfl
    | some k =>
      have hk : k < r.length := (List.findIdx?_eq_some_iff_getElem.1 h2).1
      have : standsB l.length r.length (k + l.length) = false := decide_eq_false (by omega)
      simp [Option.filter, this]

theorem fst_app (l r : List Tm) (n : ByteArray) : (fst (l ++ r) n).filter (standsB l.length r.length) = fst l n := by
  unfold fst
  rw [List.findIdx?_append]
  cases h : List.findIdx? (fun x => decide (x.name = n)) l with
  | some i =>
    have hi : i < l.length := (List.findIdx?_eq_some_iff_getElem.1 h).1
    have : standsB l.length r.length i = true := decide_eq_true (by omega)
    simp [Option.filter, this]
  | none =>
    cases h2 : List.findIdx? (fun x => decide (x.name = n)) r with
    | none => rfl
    | some k =>
      have hk : k < r.length := (List.findIdx?_eq_some_iff_getElem.1 h2).1
      have : standsB l.length r.length (k + l.length) = false := decide_eq_false (by omega)
      simp [Option.filter, this]

theorem isF_app (l r : List Tm) {i : Nat} (hi : i < l.length) : isF (l ++ r) i = isF l i := by
  unfold isF
  rw [List.getElem?_append_left hi, List.getElem?_eq_getElem hi]
  obtain ⟨k, hk⟩ := fst_mem (List.getElem_mem hi)
  have e : fst (l ++ r) l[i].name = fst l l[i].name := by
    rw [hk]
    unfold fst at hk ⊢
    rw [List.findIdx?_append, hk]
    rfl
  simp only [e]

theorem count_app (l r : List Tm) : ((List.range (l ++ r).length).filter (fun i => isF (l ++ r) i && standsB l.length r.length i)).length = cntF l := by
  unfold cntF
  rw [List.length_append, List.range_add, List.filter_append, List.length_append]
  have e1 : (List.range l.length).filter (fun i => isF (l ++ r) i && standsB l.length r.length i) = (List.range l.length).filter (isF l) := List.filter_congr (fun i hi => by
    have h := List.mem_range.1 hi
    have : standsB l.length r.length i = true := decide_eq_true (by omega)
    rw [isF_app l r h, this]; simp)
  have e2 : ((List.range r.length).map (fun x => l.length + x)).filter (fun i => isF (l ++ r) i && standsB l.length r.length i) = [] := List.filter_eq_nil_iff.2 (fun i hi => by
    obtain ⟨k, hk, rfl⟩ := List.mem_map.1 hi
    have h := List.mem_range.1 hk
    have : standsB l.length r.length (l.length + k) = false := decide_eq_false (by omega)
    simp [this])
  rw [e1, e2]
  simp

/-- All of r is taken out: what is left says l. -/
theorem Out.done {l r : List Tm} {Dn Df : DataW Unit} (O : Out l r r.length Dn Df) (ho : ∀ t ∈ l, t.ok) (hd : l.Nodup) (hs : l.length ≤ 1000) : Tells l Dn Df := by
  refine ⟨?_, fun t ht => ?_, ?_, fun n hn => ?_, ho, hd, hs⟩
  · have := O.nsize
    simp at this
    omega
  · rw [← nix_app l r]; exact O.nsays t ht
  · rw [O.fsize]; exact count_app l r
  · rw [← fst_app l r]; exact O.fsays n hn

end Go.Proofs.Ytinphcnknionmab

namespace Go.Proofs.Ytinphcnknionmab
open Go.RowKit Go.Maps

/-- A row by what is ahead of its cut. -/
def RowTo (w : World) (base g cap k : Nat) (xs : List Value) : Prop :=
  ∃ cur, base ≤ g ∧ w.heap[g]? = some (.cells cur 128 (0, 0)) ∧ cap ≤ maxLen ∧ cur.size = cap * 6 ∧ cur.toList.take (k * 6) = xs

theorem RowTo.owns {w : World} {base g cap k : Nat} {xs : List Value} (h : RowTo w base g cap k xs) (hk : k ≤ cap) : w.ownsRow base 128 6 (.slice (some ⟨g, 0, none⟩) k cap) k xs := by
  obtain ⟨cur, h1, h2, h3, h4, h5⟩ := h
  refine ⟨?_, Or.inr ⟨g, cap, cur, rfl, h1, h2, hk, h3, h4, h5⟩⟩
  rw [← h5, List.length_take]
  simp [h4]
  omega

theorem RowTo.of {w : World} {base g cap n : Nat} {xs : List Value} (h : w.ownsRow base 128 6 (.slice (some ⟨g, 0, none⟩) n cap) n xs) {k : Nat} (hk : k ≤ n) : RowTo w base g cap k (xs.take (k * 6)) ∧ n ≤ cap := by
  rcases h.2 with ⟨e, _⟩ | ⟨g', cap', cur, e, h1, h2, h3, h4, h5, h6⟩
  · cases e
  · injection e with e1 e2 e3
    injection e1 with e1
    injection e1 with e1 _ _
    subst e1
    subst e3
    refine ⟨⟨cur, h1, h2, h4, h5, ?_⟩, h3⟩
    rw [← h6, List.take_take]
    congr 1
    omega

theorem RowTo.set {w : World} {base g cap k : Nat} {xs : List Value} (h : RowTo w base g cap k xs) {o : Nat} (ho : k * 6 ≤ o) (u : Value) : RowTo (w.setCell ⟨g, o, none⟩ u) base g cap k xs := by
  obtain ⟨cur, h1, h2, h3, h4, h5⟩ := h
  refine ⟨cur.setIfInBounds o u, h1, ?_, h3, by simpa using h4, ?_⟩
  · rw [setCell_eq_setRow w g o cur _ (0, 0) _ h2, setRow_heap w g _ _ _ _ h2]
  · rw [← h5]
    simp [List.take_set]
    rw [List.set_eq_of_length_le]
    simp
    omega

theorem RowTo.sets {base g cap k : Nat} {xs : List Value} : ∀ (vs : List Value) (o : Nat) (w : World), RowTo w base g cap k xs → k * 6 ≤ o → RowTo (w.setCells g o vs) base g cap k xs
  | [], _, _, h, _ => h
  | v :: vs, o, w, h, ho => RowTo.sets vs (o + 1) (w.setCell ⟨g, o, none⟩ v) (h.set ho v) (by omega)

/-- 'clear(s)' of elements of several cells. -/
theorem run_clear_many {P : Program} (w : World) (t e ty : TypeId) (z : Value) (ht : P.underlying t = some (.slice e)) (hv : ∀ w, (zeroValue e).run P w = .ok z w) (b o n c : Nat) (hn : 0 < n) (vs : List Value) (hvs : (Builtin.zeroCells z.cells n).toList = vs) (h1 : ∀ v ∈ vs, v.oneCell' = true)
    (hc : ∀ j, j < vs.length → (w.cell? ⟨b, o + j, none⟩).isSome = true) (hf : ∀ j, j < vs.length → w.frozen? ⟨b, o + j, none⟩ = false) :
    (Builtin.clear_ #[t] ty #[.slice (some ⟨b, o, none⟩) n c]).run P w = .ok (.tuple #[]) (w.setCells b o vs) := by
  have hst := run_storeCells_cells (P := P) b o vs 0 w (by simpa using hc) (by simpa using hf) h1
  simp only [Nat.add_zero] at hst
  obtain ⟨m, rfl⟩ : ∃ m, n = m + 1 := ⟨n - 1, by omega⟩
  simp [Builtin.clear_, run_underlying ht, hv, hvs, hst]

end Go.Proofs.Ytinphcnknionmab
