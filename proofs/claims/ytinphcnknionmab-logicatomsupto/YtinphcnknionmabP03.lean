/- Package term: the bank in memory. Package term: fits. -/
import Derived.Test.YtinphcnknionmabP02
namespace Go.Proofs.Ytinphcnknionmab
open Go.RowKit Go.Maps

/-- A map of numbers, as tight as it is. -/
def mapIs (w : World) (k : TypeId) (b : Nat) (D : DataW Unit) : Prop := w.ownsMap Try.prog k (plainElem Try.prog 3) b (Maps.size D) D

theorem mapIs_of {w : World} {k : TypeId} {b n : Nat} {D : DataW Unit} (h : w.ownsMap Try.prog k (plainElem Try.prog 3) b n D) : mapIs w k b D := by
  obtain ⟨es, clock, hb, F, hs, rfl⟩ := h
  exact ⟨es, clock, hb, F, by simp [Maps.size, length_sorted], rfl⟩

/-- What a term reads as in the map of numbers. -/
noncomputable def ekey (t : Tm) : Lit := (keyOf Try.prog 128 (entryV t)).getD (.bool false)
theorem ekey_of {t : Tm} (h : t.ok) : keyOf Try.prog 128 (entryV t) = some (ekey t) := by
  obtain ⟨kl, hk⟩ := entry_key t h
  simp [ekey, hk]

theorem args_ext {a b : List Nat} (hl : a.length = b.length) (h4 : a.length ≤ 4) (h : ∀ i, i < 4 → a.getD i 0 = b.getD i 0) : a = b := by
  apply List.ext_getElem hl
  intro i h1 h2
  have := h i (by omega)
  rw [List.getD_eq_getElem?_getD, List.getD_eq_getElem?_getD, List.getElem?_eq_getElem h1, List.getElem?_eq_getElem h2] at this
  simpa using this

theorem entryV_inj {t u : Tm} (ht : t.ok) (h : entryV t = entryV u) : t = u := by
  obtain ⟨n, a⟩ := t
  obtain ⟨m, b⟩ := u
  simp [entryV, entryL, Tm.arg] at h
  obtain ⟨h0, h1, h2, h3, h4, h5⟩ := h
  have hl : a.length = b.length := by omega
  have : a = b := args_ext hl ht.args (fun i hi => by
    rcases (by omega : i = 0 ∨ i = 1 ∨ i = 2 ∨ i = 3) with rfl | rfl | rfl | rfl <;> simp only [List.getD_eq_getElem?_getD] <;> omega)
  rw [h0, this]

theorem ekey_inj {t u : Tm} (ht : t.ok) (hu : u.ok) (h : ekey t = ekey u) : t = u :=
  entryV_inj ht (tLaw.inj (ekey_of ht) (by rw [h]; exact ekey_of hu))

def skey (n : ByteArray) : Lit := .string n.data.toList
theorem skey_of {n : ByteArray} (h : n.size ≤ 6) : keyOf Try.prog 9 (.string n) = some (skey n) := WideMaps.keyOf_string_mk Try.underlying9 (Nat.le_trans h (by decide))
theorem skey_inj {n m : ByteArray} (h : skey n = skey m) : n = m := WideShapes.bytes_inj (by simpa [skey] using h)

/-- The number of a term; of a name's first term. -/
def nix (l : List Tm) (t : Tm) : Option Nat := l.findIdx? (fun x => decide (x = t))
def fst (l : List Tm) (n : ByteArray) : Option Nat := l.findIdx? (fun x => decide (x.name = n))

/-- Is term i the first one of its name? How many are? -/
def isF (l : List Tm) (i : Nat) : Bool := match l[i]? with
  | some t => decide (fst l t.name = some i)
  | none => false
def cntF (l : List Tm) : Nat := ((List.range l.length).filter (isF l)).length
theorem cntF_le (l : List Tm) : cntF l ≤ l.length := by
  have := List.length_filter_le (isF l) (List.range l.length)
  simpa [cntF] using this

/-- A map says at a key what o says. -/
def Says (D : DataW Unit) (kl : Lit) (o : Option Nat) : Prop := Maps.has D kl = o.isSome ∧ D.atKey kl (.lit (.int .i64 0)) = .lit (.int .i64 ((o.getD 0 : Nat) : Int))

theorem Says.put_same {D : DataW Unit} {kl : Lit} (hD : IsMap D) (hk : WideAt.IsKeyLit kl) (n : Nat) : Says (D.put kl (.lit (.int .i64 (n : Int)))) kl (some n) :=
  ⟨has_put_same hD hk _, atKey_put_same hD hk _ _⟩
theorem Says.put_other {D : DataW Unit} {kl kl' : Lit} {o : Option Nat} (h : Says D kl' o) (hne : kl' ≠ kl) (d : DataW Unit) : Says (D.put kl d) kl' o :=
  ⟨by rw [has_put_other hne]; exact h.1, by rw [atKey_put_other hne]; exact h.2⟩
theorem Says.del_same {D : DataW Unit} {kl : Lit} : Says (D.del kl) kl none := ⟨has_del_same, atKey_del_same _⟩
theorem Says.del_other {D : DataW Unit} {kl kl' : Lit} {o : Option Nat} (h : Says D kl' o) (hne : kl' ≠ kl) : Says (D.del kl) kl' o :=
  ⟨by rw [has_del_other hne]; exact h.1, by rw [atKey_del_other hne]; exact h.2⟩

def bankC (ev : Value) (nb fb : Nat) (j : Nat) : Value := if j = 0 then ev else if j = 1 then .map (some nb) else .map (some fb)

/-- A bank at block p: its row of entries, and two maps. -/
structure Bk (w : World) (base p : Nat) (ev : Value) (nb fb : Nat) (l : List Tm) : Prop where
  bank : w.rowIs p 85 3 (bankC ev nb fb)
  rows : w.ownsRow base 128 6 ev l.length (l.flatMap entryL)
  nums : ∃ D, mapIs w 128 nb D ∧ Maps.size D = l.length ∧ ∀ t : Tm, t.ok → Says D (ekey t) (nix l t)
  fsts : ∃ D, mapIs w 9 fb D ∧ Maps.size D = cntF l ∧ ∀ n : ByteArray, n.size ≤ 6 → Says D (skey n) (fst l n)
  oks : ∀ t ∈ l, t.ok
  nodup : l.Nodup
  pn : p ≠ nb
  pf : p ≠ fb
  nf : nb ≠ fb
  ep : ev.ownBlock ≠ some p
  en : ev.ownBlock ≠ some nb
  ef : ev.ownBlock ≠ some fb
  bp : base ≤ p
  bn : base ≤ nb
  bf : base ≤ fb
  small : l.length ≤ 1000

theorem Bk.c0 {w : World} {base p : Nat} {ev : Value} {nb fb : Nat} {l : List Tm} (h : Bk w base p ev nb fb l) : w.cell? ⟨p, 0, none⟩ = some ev := h.bank.cell (by omega)
theorem Bk.c1 {w : World} {base p : Nat} {ev : Value} {nb fb : Nat} {l : List Tm} (h : Bk w base p ev nb fb l) : w.cell? ⟨p, 1, none⟩ = some (.map (some nb)) := h.bank.cell (i := 1) (by omega)
theorem Bk.c2 {w : World} {base p : Nat} {ev : Value} {nb fb : Nat} {l : List Tm} (h : Bk w base p ev nb fb l) : w.cell? ⟨p, 2, none⟩ = some (.map (some fb)) := h.bank.cell (i := 2) (by omega)
theorem Bk.drewN {w : World} {base p : Nat} {ev : Value} {nb fb : Nat} {l : List Tm} (h : Bk w base p ev nb fb l) (m : Nat) : Bk (w.drewN m) base p ev nb fb l :=
  ⟨h.bank, h.rows, h.nums, h.fsts, h.oks, h.nodup, h.pn, h.pf, h.nf, h.ep, h.en, h.ef, h.bp, h.bn, h.bf, h.small⟩
theorem Bk.eform {w : World} {base p : Nat} {ev : Value} {nb fb : Nat} {l : List Tm} (h : Bk w base p ev nb fb l) : ∃ a cap, ev = .slice a l.length cap := by
  rcases h.rows.2 with ⟨rfl, h0⟩ | ⟨b, cap, cur, rfl, _⟩
  · rw [h0]; exact ⟨none, 0, rfl⟩
  · exact ⟨_, cap, rfl⟩

theorem Bk.grown {w w' : World} {base p : Nat} {ev : Value} {nb fb : Nat} {l : List Tm} {row : Option Nat} (h : Bk w base p ev nb fb l) (K : w.grownBy w' row) (hp : some p ≠ row) (hn : some nb ≠ row) (hf : some fb ≠ row) (he : row = none ∨ ev.ownBlock ≠ row) : Bk w' base p ev nb fb l := by
  obtain ⟨Dn, n1, n2, n3⟩ := h.nums
  obtain ⟨Df, f1, f2, f3⟩ := h.fsts
  exact ⟨h.bank.of_block (K.block p h.bank.lt hp), h.rows.kept K (he.elim (fun e => e ▸ Decidable.em (ev.ownBlock = none)) Or.inr), ⟨Dn, World.ownsMap.kept n1 K hn, n2, n3⟩, ⟨Df, World.ownsMap.kept f1 K hf, f2, f3⟩, h.oks, h.nodup, h.pn, h.pf, h.nf, h.ep, h.en, h.ef, h.bp, h.bn, h.bf, h.small⟩

abbrev Kept0 (w w' : World) : Prop := Kept (fun _ => False) w w'
theorem Kept0.grownBy {w w' : World} (h : Kept0 w w') : w.grownBy w' none := ⟨h.os, h.tape, h.output, h.size, fun k hk _ => h.block k hk (fun e => e)⟩
theorem Bk.kept0 {w w' : World} {base p : Nat} {ev : Value} {nb fb : Nat} {l : List Tm} (h : Bk w base p ev nb fb l) (K : Kept0 w w') : Bk w' base p ev nb fb l :=
  h.grown K.grownBy (by simp) (by simp) (by simp) (Or.inl rfl)
theorem Bk.kept1 {w w' : World} {base p : Nat} {ev : Value} {nb fb : Nat} {l : List Tm} {x : Nat} (h : Bk w base p ev nb fb l) (K : Kept1 x w w') (hp : p ≠ x) (hn : nb ≠ x) (hf : fb ≠ x) (he : ev.ownBlock ≠ some x) : Bk w' base p ev nb fb l :=
  h.grown K.grownBy (by simpa using hp) (by simpa using hn) (by simpa using hf) (Or.inr he)

/-- 'v, ok := firsts[n]', 'numbers[e]', 'firsts[n]'. -/
theorem Says.look {w : World} {k t : TypeId} {b : Nat} {D : DataW Unit} {key : Value} {kl : Lit} {o : Option Nat} (h : mapIs w k b D) (S : Says D kl o) (K : Keyed Try.prog k) (ht : Try.prog.underlying t = some (.map k 3)) (hkey : keyOf Try.prog k key = some kl) :
    (Instr.lookup t (.map (some b)) key true).run Try.prog w = .ok (.tuple #[.int .i64 ((o.getD 0 : Nat) : Int), .bool o.isSome]) w := by
  obtain ⟨v, ps, hrun, hv⟩ := World.ownsMap.look_ok h K ht (zeroI w) (plainElem_int Try.underlying3 (by decide)) hkey
  rw [S.2] at hv
  obtain ⟨c, rfl, hc, _⟩ := plainElem_int_inv Try.underlying3 hv
  have hc' := congrArg Prod.fst hc
  simp at hc'
  rw [hrun, S.1, hc']

theorem Bk.lookF {w : World} {base p : Nat} {ev : Value} {nb fb : Nat} {l : List Tm} (h : Bk w base p ev nb fb l) {n : ByteArray} (hn : n.size ≤ 6) :
    (Instr.lookup 82 (.map (some fb)) (.string n) true).run Try.prog w = .ok (.tuple #[.int .i64 (((fst l n).getD 0 : Nat) : Int), .bool (fst l n).isSome]) w := by
  obtain ⟨D, f1, _, f3⟩ := h.fsts
  exact (f3 n hn).look f1 sLaw Try.underlying82 (skey_of hn)
theorem Bk.lookN {w : World} {base p : Nat} {ev : Value} {nb fb : Nat} {l : List Tm} (h : Bk w base p ev nb fb l) {t : Tm} (ht : t.ok) :
    (Instr.lookup 81 (.map (some nb)) (entryV t) true).run Try.prog w = .ok (.tuple #[.int .i64 (((nix l t).getD 0 : Nat) : Int), .bool (nix l t).isSome]) w := by
  obtain ⟨D, f1, _, f3⟩ := h.nums
  exact (f3 t ht).look f1 tLaw Try.underlying81 (ekey_of ht)

/-- The entry's cells in the row. -/
theorem flat_getElem (l : List Tm) (i j : Nat) (hj : j < 6) : (l.flatMap entryL)[i * 6 + j]? = (l[i]?).bind (fun t => (entryL t)[j]?) := by
  induction l generalizing i with
  | nil => simp
  | cons t l ih =>
    cases i with
    | zero => rcases (by omega : j = 0 ∨ j = 1 ∨ j = 2 ∨ j = 3 ∨ j = 4 ∨ j = 5) with rfl | rfl | rfl | rfl | rfl | rfl <;> simp [entryL]
    | succ i =>
      have e : (i + 1) * 6 + j = 6 + (i * 6 + j) := by omega
      simp [List.flatMap_cons, e]
      rw [List.getElem?_append_right (by simp [entryL])]
      simpa [entryL] using ih i

theorem Bk.at {w : World} {base p : Nat} {ev : Value} {nb fb : Nat} {l : List Tm} (h : Bk w base p ev nb fb l) {i : Nat} {t : Tm} (hi : l[i]? = some t) :
    ∃ g cap, ev = .slice (some ⟨g, 0, none⟩) l.length cap ∧ ∀ j u, (entryL t)[j]? = some u → w.cell? ⟨g, i * 6 + j, none⟩ = some u := by
  have hlt : i < l.length := (List.getElem?_eq_some_iff.1 hi).1
  rcases h.rows.2 with ⟨e, h0⟩ | ⟨b, cap, cur, e, _⟩
  · omega
  · refine ⟨b, cap, e, fun j u hj => ?_⟩
    have hj6 : j < 6 := by have := (List.getElem?_eq_some_iff.1 hj).1; simpa [entryL] using this
    have := h.rows.cells (g := b) (by rw [e]; rfl) (i * 6 + j) u (by rw [flat_getElem l i j hj6, hi]; exact hj)
    simp [Addr.add] at this
    split at this
    · next e0 => rw [e0.1, e0.2]; exact this
    · exact this

set_option maxHeartbeats 400000 in
theorem size_in (w : World) (base p : Nat) (ev : Value) (nb fb : Nat) (l : List Tm) (h : Bk w base p ev nb fb l) :
    Calls Try.prog 74 #[.pointer (some ⟨p, 0, none⟩)] w fun e w' => e = .returned (.int .i64 (l.length : Int)) ∧ w = w' := by
  obtain ⟨a, cap, rfl⟩ := h.eform
  have c0 := h.c0
  have hs := h.small
  clear h
  go_enter Try.func74, Try.ntmps74
  go_wp2
  go_ret
  exact ⟨rfl, rfl⟩

set_option maxHeartbeats 400000 in
theorem thas_in (w : World) (base p : Nat) (ev : Value) (nb fb : Nat) (l : List Tm) (h : Bk w base p ev nb fb l) (a : Int) :
    Calls Try.prog 54 #[.pointer (some ⟨p, 0, none⟩), .int .i64 a] w fun e w' => e = .returned (.bool (inB l.length a)) ∧ w = w' := by
  obtain ⟨x, cap, rfl⟩ := h.eform
  have c0 := h.c0
  have hs := h.small
  clear h
  go_enter Try.func54, Try.ntmps54
  go_wp2
  · go_ret
    exact ⟨ret_bool (inB_ge ‹_›), rfl⟩
  · go_ret
    exact ⟨ret_bool (inB_lt ‹_›), rfl⟩

end Go.Proofs.Ytinphcnknionmab

namespace Go.Proofs.Ytinphcnknionmab
open Go.RowKit Go.Maps

def fitsB (l : List Tm) (t : Tm) : Bool := match fst l t.name with
  | none => true
  | some i => match l[i]? with
    | none => true
    | some u => decide (u.args.length = t.args.length)

theorem fst_some {l : List Tm} {n : ByteArray} {i : Nat} (h : fst l n = some i) : ∃ u, l[i]? = some u ∧ u.name = n := by
  obtain ⟨hi, hp, _⟩ := List.findIdx?_eq_some_iff_getElem.1 h
  exact ⟨l[i], List.getElem?_eq_getElem hi, of_decide_eq_true hp⟩

/-- The box of an entry. -/
theorem boxed (w : World) (t : Tm) : ∀ j u, (entryL t)[j]? = some u → (w.alloc (.cells (entryL t).toArray 128)).cell? ⟨w.heap.size, j, none⟩ = some u := by
  intro j u hj
  rw [World.cell?_alloc_at _ _ _ _ rfl, List.getElem?_toArray]
  exact hj

set_option maxHeartbeats 400000 in
theorem fits_in (w : World) (base p : Nat) (ev : Value) (nb fb : Nat) (l : List Tm) (h : Bk w base p ev nb fb l) (t : Tm) (ht : t.ok) :
    Calls Try.prog 83 #[.pointer (some ⟨p, 0, none⟩), entryV t] w fun e w' => e = .returned (.bool (fitsB l t)) ∧ Bk w' base p ev nb fb l ∧ Kept0 w w' := by
  have c0 := h.c0
  have c2 := h.c2
  have b0 := boxed w t 0 _ rfl
  have b1 := boxed w t 1 _ rfl
  unfold entryV entryL
  unfold entryL at b0 b1
  go_enter Try.func83, Try.ntmps83
  go_wp2_with fail
  generalize hw1 : w.alloc (Obj.cells #[.string t.name, .int .i64 (t.args.length : Int), .int .i64 (t.arg 0 : Int), .int .i64 (t.arg 1 : Int), .int .i64 (t.arg 2 : Int), .int .i64 (t.arg 3 : Int)] 128) = w1 at b0 b1 ⊢
  have K1 : Kept0 w w1 := hw1 ▸ Kept.alloc (Kept.refl _ w) _
  have H1 := h.kept0 K1
  have c0 := H1.c0
  have c2 := H1.c2
  have LF := fun m => (H1.drewN m).lookF ht.name
  cases hf : fst l t.name with
  | none =>
    rw [hf] at LF
    simp only [Option.getD_none, Option.isSome_none] at LF
    have hB : fitsB l t = true := by simp [fitsB, hf]
    go_quiet (fail)
    go_wp2_with fail
    go_quiet (fail)
    go_wp2_with fail
    go_ret
    exact ⟨ret_bool hB.symm, (H1.drewN _).drewN _, (Kept.drewN K1 _).drewN _⟩
  | some i =>
    rw [hf] at LF
    simp only [Option.getD_some, Option.isSome_some] at LF
    obtain ⟨u, hu, hun⟩ := fst_some hf
    have hil : i < l.length := (List.getElem?_eq_some_iff.1 hu).1
    have hsm := h.small
    have hB : fitsB l t = decide (u.args.length = t.args.length) := by simp [fitsB, hf, hu]
    obtain ⟨g, cap, rfl, hg⟩ := H1.at hu
    have g1 := hg 1 _ rfl
    go_quiet (fail)
    go_wp2_with fail
    go_quiet (fail)
    go_wp2_with fail
    go_ret
    refine ⟨ret_bool ?_, (H1.drewN _).drewN _, (Kept.drewN K1 _).drewN _⟩
    rw [hB, Bool.eq_iff_iff]
    simp
    omega

end Go.Proofs.Ytinphcnknionmab
