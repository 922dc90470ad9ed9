/- Package term: the bank in memory. Package term: fits. internal/stringslite.Clone's contract at this program, by the kit's shelf; strings.Clone. Package term: add. Package term: add, where the term is new. Package term: add as one; New. Package close: a closure in memory. Package close: signature. Package close: what changes the classes, part by part. Package decide: signatures as keys. -/
import Derived.Test.YtlehlgipbhfioaaGreatP09
import Derived.Shelf.LaysM
import Derived.Shelf.Strconv.Clone
import Derived.Test.YtlehlgipbhfioaaGreatP00
import Derived.Test.YtlehlgipbhfioaaGreatP01
import Derived.Test.YtlehlgipbhfioaaGreatP03
import Derived.Test.YtlehlgipbhfioaaGreatP10
namespace Go.Proofs.YtlehlgipbhfioaaGreat
open Go.RowKit Go.Maps

/-- A map of numbers, as tight as it is. -/
def mapIs (w : World) (k : TypeId) (b : Nat) (D : DataW Unit) : Prop := w.ownsMap Tryz.prog k (plainElem Tryz.prog 3) b (Maps.size D) D

theorem mapIs_of {w : World} {k : TypeId} {b n : Nat} {D : DataW Unit} (h : w.ownsMap Tryz.prog k (plainElem Tryz.prog 3) b n D) : mapIs w k b D := by
  obtain ⟨es, clock, hb, F, hs, rfl⟩ := h
  exact ⟨es, clock, hb, F, by simp [Maps.size, length_sorted], rfl⟩

/-- What a term reads as in the map of numbers. -/
noncomputable def ekey (t : Tm) : Lit := (keyOf Tryz.prog 152 (entryV t)).getD (.bool false)
theorem ekey_of {t : Tm} (h : t.ok) : keyOf Tryz.prog 152 (entryV t) = some (ekey t) := by
  obtain ⟨kl, hk⟩ := entry_key t h
  simp [ekey, hk]

theorem args_ext {a b : List Nat} (hl : a.length = b.length) (h4 : a.length ≤ 4) (h : ∀ i, i < 4 → a.getD i 0 = b.getD i 0) : a = b := by
  apply List.ext_getElem hl
  intro i h1 h2
  have := h i (by omega)
  rw [List.getD_eq_getElem?_getD, List.getD_eq_getElem?_getD, List.getElem?_eq_getElem h1, List.getElem?_eq_getElem h2] at this
  simpa using this

theorem entryV_inj {t u : Tm} (ht : t.ok) (h : entryV t = entryV u) : t = u := by
  obtain ⟨n, a⟩ := t
  obtain ⟨m, b⟩ := u
  simp [entryV, entryL, Tm.arg] at h
  obtain ⟨h0, h1, h2, h3, h4, h5⟩ := h
  have hl : a.length = b.length := by omega
  have : a = b := args_ext hl ht.args (fun i hi => by
    rcases (by omega : i = 0 ∨ i = 1 ∨ i = 2 ∨ i = 3) with rfl | rfl | rfl | rfl <;> simp only [List.getD_eq_getElem?_getD] <;> omega)
  rw [h0, this]

theorem ekey_inj {t u : Tm} (ht : t.ok) (hu : u.ok) (h : ekey t = ekey u) : t = u :=
  entryV_inj ht (tLaw.inj (ekey_of ht) (by rw [h]; exact ekey_of hu))

def skey (n : ByteArray) : Lit := .string n.data.toList
theorem skey_of {n : ByteArray} (h : n.size ≤ 6) : keyOf Tryz.prog 9 (.string n) = some (skey n) := WideMaps.keyOf_string_mk Tryz.underlying9 (Nat.le_trans h (by decide))
theorem skey_inj {n m : ByteArray} (h : skey n = skey m) : n = m := WideShapes.bytes_inj (by simpa [skey] using h)

/-- The number of a term; of a name's first term. -/
def nix (l : List Tm) (t : Tm) : Option Nat := l.findIdx? (fun x => decide (x = t))
def fst (l : List Tm) (n : ByteArray) : Option Nat := l.findIdx? (fun x => decide (x.name = n))

/-- Is term i the first one of its name? How many are? -/
def isF (l : List Tm) (i : Nat) : Bool := match l[i]? with
  | some t => decide (fst l t.name = some i)
  | none => false
def cntF (l : List Tm) : Nat := ((List.range l.length).filter (isF l)).length
theorem cntF_le (l : List Tm) : cntF l ≤ l.length := by
  have := List.length_filter_le (isF l) (List.range l.length)
  simpa [cntF] using this

/-- A map says at a key what o says. -/
def Says (D : DataW Unit) (kl : Lit) (o : Option Nat) : Prop := Maps.has D kl = o.isSome ∧ D.atKey kl (.lit (.int .i64 0)) = .lit (.int .i64 ((o.getD 0 : Nat) : Int))

theorem Says.put_same {D : DataW Unit} {kl : Lit} (hD : IsMap D) (hk : WideAt.IsKeyLit kl) (n : Nat) : Says (D.put kl (.lit (.int .i64 (n : Int)))) kl (some n) :=
  ⟨has_put_same hD hk _, atKey_put_same hD hk _ _⟩
theorem Says.put_other {D : DataW Unit} {kl kl' : Lit} {o : Option Nat} (h : Says D kl' o) (hne : kl' ≠ kl) (d : DataW Unit) : Says (D.put kl d) kl' o :=
  ⟨by rw [has_put_other hne]; exact h.1, by rw [atKey_put_other hne]; exact h.2⟩
theorem Says.del_same {D : DataW Unit} {kl : Lit} : Says (D.del kl) kl none := ⟨has_del_same, atKey_del_same _⟩
theorem Says.del_other {D : DataW Unit} {kl kl' : Lit} {o : Option Nat} (h : Says D kl' o) (hne : kl' ≠ kl) : Says (D.del kl) kl' o :=
  ⟨by rw [has_del_other hne]; exact h.1, by rw [atKey_del_other hne]; exact h.2⟩

def bankC (ev : Value) (nb fb : Nat) (j : Nat) : Value := if j = 0 then ev else if j = 1 then .map (some nb) else .map (some fb)

/-- A bank at block p: its row of entries, and two maps. -/
structure Bk (w : World) (base p : Nat) (ev : Value) (nb fb : Nat) (l : List Tm) : Prop where
  bank : w.rowIs p 84 3 (bankC ev nb fb)
  rows : w.ownsRow base 152 6 ev l.length (l.flatMap entryL)
  nums : ∃ D, mapIs w 152 nb D ∧ Maps.size D = l.length ∧ ∀ t : Tm, t.ok → Says D (ekey t) (nix l t)
  fsts : ∃ D, mapIs w 9 fb D ∧ Maps.size D = cntF l ∧ ∀ n : ByteArray, n.size ≤ 6 → Says D (skey n) (fst l n)
  oks : ∀ t ∈ l, t.ok
  nodup : l.Nodup
  pn : p ≠ nb
  pf : p ≠ fb
  nf : nb ≠ fb
  ep : ev.ownBlock ≠ some p
  en : ev.ownBlock ≠ some nb
  ef : ev.ownBlock ≠ some fb
  bp : base ≤ p
  bn : base ≤ nb
  bf : base ≤ fb
  small : l.length ≤ 1000

theorem Bk.c0 {w : World} {base p : Nat} {ev : Value} {nb fb : Nat} {l : List Tm} (h : Bk w base p ev nb fb l) : w.cell? ⟨p, 0, none⟩ = some ev := h.bank.cell (by omega)
theorem Bk.c1 {w : World} {base p : Nat} {ev : Value} {nb fb : Nat} {l : List Tm} (h : Bk w base p ev nb fb l) : w.cell? ⟨p, 1, none⟩ = some (.map (some nb)) := h.bank.cell (i := 1) (by omega)
theorem Bk.c2 {w : World} {base p : Nat} {ev : Value} {nb fb : Nat} {l : List Tm} (h : Bk w base p ev nb fb l) : w.cell? ⟨p, 2, none⟩ = some (.map (some fb)) := h.bank.cell (i := 2) (by omega)
theorem Bk.drewN {w : World} {base p : Nat} {ev : Value} {nb fb : Nat} {l : List Tm} (h : Bk w base p ev nb fb l) (m : Nat) : Bk (w.drewN m) base p ev nb fb l :=
  ⟨h.bank, h.rows, h.nums, h.fsts, h.oks, h.nodup, h.pn, h.pf, h.nf, h.ep, h.en, h.ef, h.bp, h.bn, h.bf, h.small⟩
theorem Bk.eform {w : World} {base p : Nat} {ev : Value} {nb fb : Nat} {l : List Tm} (h : Bk w base p ev nb fb l) : ∃ a cap, ev = .slice a l.length cap := by
  rcases h.rows.2 with ⟨rfl, h0⟩ | ⟨b, cap, cur, rfl, _⟩
  · rw [h0]; exact ⟨none, 0, rfl⟩
  · exact ⟨_, cap, rfl⟩

theorem Bk.grown {w w' : World} {base p : Nat} {ev : Value} {nb fb : Nat} {l : List Tm} {row : Option Nat} (h : Bk w base p ev nb fb l) (K : w.grownBy w' row) (hp : some p ≠ row) (hn : some nb ≠ row) (hf : some fb ≠ row) (he : row = none ∨ ev.ownBlock ≠ row) : Bk w' base p ev nb fb l := by
  obtain ⟨Dn, n1, n2, n3⟩ := h.nums
  obtain ⟨Df, f1, f2, f3⟩ := h.fsts
  exact ⟨h.bank.of_block (K.block p h.bank.lt hp), h.rows.kept K (he.elim (fun e => e ▸ Decidable.em (ev.ownBlock = none)) Or.inr), ⟨Dn, World.ownsMap.kept n1 K hn, n2, n3⟩, ⟨Df, World.ownsMap.kept f1 K hf, f2, f3⟩, h.oks, h.nodup, h.pn, h.pf, h.nf, h.ep, h.en, h.ef, h.bp, h.bn, h.bf, h.small⟩

abbrev Kept0 (w w' : World) : Prop := Kept (fun _ => False) w w'
theorem Kept0.grownBy {w w' : World} (h : Kept0 w w') : w.grownBy w' none := ⟨h.os, h.tape, h.output, h.size, fun k hk _ => h.block k hk (fun e => e)⟩
theorem Bk.kept0 {w w' : World} {base p : Nat} {ev : Value} {nb fb : Nat} {l : List Tm} (h : Bk w base p ev nb fb l) (K : Kept0 w w') : Bk w' base p ev nb fb l :=
  h.grown K.grownBy (by simp) (by simp) (by simp) (Or.inl rfl)
theorem Bk.kept1 {w w' : World} {base p : Nat} {ev : Value} {nb fb : Nat} {l : List Tm} {x : Nat} (h : Bk w base p ev nb fb l) (K : Kept1 x w w') (hp : p ≠ x) (hn : nb ≠ x) (hf : fb ≠ x) (he : ev.ownBlock ≠ some x) : Bk w' base p ev nb fb l :=
  h.grown K.grownBy (by simpa using hp) (by simpa using hn) (by simpa using hf) (Or.inr he)

/-- 'v, ok := firsts[n]', 'numbers[e]', 'firsts[n]'. -/
theorem Says.look {w : World} {k t : TypeId} {b : Nat} {D : DataW Unit} {key : Value} {kl : Lit} {o : Option Nat} (h : mapIs w k b D) (S : Says D kl o) (K : Keyed Tryz.prog k) (ht : Tryz.prog.underlying t = some (.map k 3)) (hkey : keyOf Tryz.prog k key = some kl) :
    (Instr.lookup t (.map (some b)) key true).run Tryz.prog w = .ok (.tuple #[.int .i64 ((o.getD 0 : Nat) : Int), .bool o.isSome]) w := by
  obtain ⟨v, ps, hrun, hv⟩ := World.ownsMap.look_ok h K ht (zeroI w) (plainElem_int Tryz.underlying3 (by decide)) hkey
  rw [S.2] at hv
  obtain ⟨c, rfl, hc, _⟩ := plainElem_int_inv Tryz.underlying3 hv
  have hc' := congrArg Prod.fst hc
  simp at hc'
  rw [hrun, S.1, hc']

theorem Bk.lookF {w : World} {base p : Nat} {ev : Value} {nb fb : Nat} {l : List Tm} (h : Bk w base p ev nb fb l) {n : ByteArray} (hn : n.size ≤ 6) :
    (Instr.lookup 81 (.map (some fb)) (.string n) true).run Tryz.prog w = .ok (.tuple #[.int .i64 (((fst l n).getD 0 : Nat) : Int), .bool (fst l n).isSome]) w := by
  obtain ⟨D, f1, _, f3⟩ := h.fsts
  exact (f3 n hn).look f1 sLaw Tryz.underlying81 (skey_of hn)
theorem Bk.lookN {w : World} {base p : Nat} {ev : Value} {nb fb : Nat} {l : List Tm} (h : Bk w base p ev nb fb l) {t : Tm} (ht : t.ok) :
    (Instr.lookup 80 (.map (some nb)) (entryV t) true).run Tryz.prog w = .ok (.tuple #[.int .i64 (((nix l t).getD 0 : Nat) : Int), .bool (nix l t).isSome]) w := by
  obtain ⟨D, f1, _, f3⟩ := h.nums
  exact (f3 t ht).look f1 tLaw Tryz.underlying80 (ekey_of ht)

/-- The entry's cells in the row. -/
theorem flat_getElem (l : List Tm) (i j : Nat) (hj : j < 6) : (l.flatMap entryL)[i * 6 + j]? = (l[i]?).bind (fun t => (entryL t)[j]?) := by
  induction l generalizing i with
  | nil => simp
  | cons t l ih =>
    cases i with
    | zero => rcases (by omega : j = 0 ∨ j = 1 ∨ j = 2 ∨ j = 3 ∨ j = 4 ∨ j = 5) with rfl | rfl | rfl | rfl | rfl | rfl <;> simp [entryL]
    | succ i =>
      have e : (i + 1) * 6 + j = 6 + (i * 6 + j) := by omega
      simp [List.flatMap_cons, e]
      rw [List.getElem?_append_right (by simp [entryL])]
      simpa [entryL] using ih i

theorem Bk.at {w : World} {base p : Nat} {ev : Value} {nb fb : Nat} {l : List Tm} (h : Bk w base p ev nb fb l) {i : Nat} {t : Tm} (hi : l[i]? = some t) :
    ∃ g cap, ev = .slice (some ⟨g, 0, none⟩) l.length cap ∧ ∀ j u, (entryL t)[j]? = some u → w.cell? ⟨g, i * 6 + j, none⟩ = some u := by
  have hlt : i < l.length := (List.getElem?_eq_some_iff.1 hi).1
  rcases h.rows.2 with ⟨e, h0⟩ | ⟨b, cap, cur, e, _⟩
  · omega
  · refine ⟨b, cap, e, fun j u hj => ?_⟩
    have hj6 : j < 6 := by have := (List.getElem?_eq_some_iff.1 hj).1; simpa [entryL] using this
    have := h.rows.cells (g := b) (by rw [e]; rfl) (i * 6 + j) u (by rw [flat_getElem l i j hj6, hi]; exact hj)
    simp [Addr.add] at this
    split at this
    · next e0 => rw [e0.1, e0.2]; exact this
    · exact this

set_option maxHeartbeats 400000 in
theorem size_in (w : World) (base p : Nat) (ev : Value) (nb fb : Nat) (l : List Tm) (h : Bk w base p ev nb fb l) :
    Calls Tryz.prog 35 #[.pointer (some ⟨p, 0, none⟩)] w fun e w' => e = .returned (.int .i64 (l.length : Int)) ∧ w = w' := by
  obtain ⟨a, cap, rfl⟩ := h.eform
  have c0 := h.c0
  have hs := h.small
  clear h
  go_enter Tryz.func35, Tryz.ntmps35
  go_wp2
  go_ret
  exact ⟨rfl, rfl⟩

set_option maxHeartbeats 400000 in
theorem thas_in (w : World) (base p : Nat) (ev : Value) (nb fb : Nat) (l : List Tm) (h : Bk w base p ev nb fb l) (a : Int) :
    Calls Tryz.prog 65 #[.pointer (some ⟨p, 0, none⟩), .int .i64 a] w fun e w' => e = .returned (.bool (inB l.length a)) ∧ w = w' := by
  obtain ⟨x, cap, rfl⟩ := h.eform
  have c0 := h.c0
  have hs := h.small
  clear h
  go_enter Tryz.func65, Tryz.ntmps65
  go_wp2
  · go_ret
    exact ⟨ret_bool (inB_ge ‹_›), rfl⟩
  · go_ret
    exact ⟨ret_bool (inB_lt ‹_›), rfl⟩

end Go.Proofs.YtlehlgipbhfioaaGreat

namespace Go.Proofs.YtlehlgipbhfioaaGreat
open Go.RowKit Go.Maps

def fitsB (l : List Tm) (t : Tm) : Bool := match fst l t.name with
  | none => true
  | some i => match l[i]? with
    | none => true
    | some u => decide (u.args.length = t.args.length)

theorem fst_some {l : List Tm} {n : ByteArray} {i : Nat} (h : fst l n = some i) : ∃ u, l[i]? = some u ∧ u.name = n := by
  obtain ⟨hi, hp, _⟩ := List.findIdx?_eq_some_iff_getElem.1 h
  exact ⟨l[i], List.getElem?_eq_getElem hi, of_decide_eq_true hp⟩

/-- The box of an entry. -/
theorem boxed (w : World) (t : Tm) : ∀ j u, (entryL t)[j]? = some u → (w.alloc (.cells (entryL t).toArray 152)).cell? ⟨w.heap.size, j, none⟩ = some u := by
  intro j u hj
  rw [World.cell?_alloc_at _ _ _ _ rfl, List.getElem?_toArray]
  exact hj

set_option maxHeartbeats 400000 in
theorem fits_in (w : World) (base p : Nat) (ev : Value) (nb fb : Nat) (l : List Tm) (h : Bk w base p ev nb fb l) (t : Tm) (ht : t.ok) :
    Calls Tryz.prog 104 #[.pointer (some ⟨p, 0, none⟩), entryV t] w fun e w' => e = .returned (.bool (fitsB l t)) ∧ Bk w' base p ev nb fb l ∧ Kept0 w w' := by
  have c0 := h.c0
  have c2 := h.c2
  have b0 := boxed w t 0 _ rfl
  have b1 := boxed w t 1 _ rfl
  unfold entryV entryL
  unfold entryL at b0 b1
  go_enter Tryz.func104, Tryz.ntmps104
  go_wp2_with fail
  generalize hw1 : w.alloc (Obj.cells #[.string t.name, .int .i64 (t.args.length : Int), .int .i64 (t.arg 0 : Int), .int .i64 (t.arg 1 : Int), .int .i64 (t.arg 2 : Int), .int .i64 (t.arg 3 : Int)] 152) = w1 at b0 b1 ⊢
  have K1 : Kept0 w w1 := hw1 ▸ Kept.alloc (Kept.refl _ w) _
  have H1 := h.kept0 K1
  have c0 := H1.c0
  have c2 := H1.c2
  have LF := fun m => (H1.drewN m).lookF ht.name
  cases hf : fst l t.name with
  | none =>
    rw [hf] at LF
    simp only [Option.getD_none, Option.isSome_none] at LF
    have hB : fitsB l t = true := by simp [fitsB, hf]
    go_quiet (fail)
    go_wp2_with fail
    go_quiet (fail)
    go_wp2_with fail
    go_ret
    exact ⟨ret_bool hB.symm, (H1.drewN _).drewN _, (Kept.drewN K1 _).drewN _⟩
  | some i =>
    rw [hf] at LF
    simp only [Option.getD_some, Option.isSome_some] at LF
    obtain ⟨u, hu, hun⟩ := fst_some hf
    have hil : i < l.length := (List.getElem?_eq_some_iff.1 hu).1
    have hsm := h.small
    have hB : fitsB l t = decide (u.args.length = t.args.length) := by simp [fitsB, hf, hu]
    obtain ⟨g, cap, rfl, hg⟩ := H1.at hu
    have g1 := hg 1 _ rfl
    go_quiet (fail)
    go_wp2_with fail
    go_quiet (fail)
    go_wp2_with fail
    go_ret
    refine ⟨ret_bool ?_, (H1.drewN _).drewN _, (Kept.drewN K1 _).drewN _⟩
    rw [hB, Bool.eq_iff_iff]
    simp
    omega

end Go.Proofs.YtlehlgipbhfioaaGreat

namespace Go.Proofs
open Go.Shelf
def Tryz.laysM316_ren : Go.Shelf.Ren := ⟨fun | 316 => 193 | n => n, fun | 9 => 9 | 3 => 3 | 4 => 4 | 37 => 330 | 0 => 0 | 127 => 331 | 5 => 5 | n => n, fun | n => n⟩
theorem Tryz.laysM316 : Go.Proofs.LaysM.n316 Tryz.prog Tryz.laysM316_ren := {
  mixed := by kernel_rfl
  f316 := Tryz.func193.trans (congrArg some (by kernel_rfl))
  t0 := Tryz.underlying0
  a0 := Tryz.isAgg0
  z0 := Tryz.sizeOf0
  v0 := Tryz.zeroValue0
  t3 := Tryz.underlying3
  a3 := Tryz.isAgg3
  z3 := Tryz.sizeOf3
  v3 := Tryz.zeroValue3
  t4 := Tryz.underlying4
  a4 := Tryz.isAgg4
  z4 := Tryz.sizeOf4
  v4 := Tryz.zeroValue4
  t9 := Tryz.underlying9
  a9 := Tryz.isAgg9
  z9 := Tryz.sizeOf9
  v9 := Tryz.zeroValue9
  t37 := Tryz.underlying330
  a37 := Tryz.isAgg330
  z37 := Tryz.sizeOf330
  v37 := Tryz.zeroValue330
  t127 := Tryz.underlying331
  a127 := Tryz.isAgg331
  z127 := Tryz.sizeOf331
  v127 := Tryz.zeroValue331
  t5 := Tryz.underlying5
  a5 := Tryz.isAgg5
  z5 := Tryz.sizeOf5
  v5 := Tryz.zeroValue5
  i0 := by kernel_rfl
  i3 := by kernel_rfl
  i4 := by kernel_rfl
  i5 := by kernel_rfl
  i9 := by kernel_rfl
  i37 := by kernel_rfl
  i127 := by kernel_rfl }
end Go.Proofs
namespace Go.Proofs.YtlehlgipbhfioaaGreat
open Go.RowKit
theorem slClone_any (s : ByteArray) (w : World) (h : s.size ≤ 6) :
    Calls Tryz.prog 193 #[.string s] w fun e w' => e = .returned (.string s) ∧ Below w.heap.size w w' := Any.stringslite_Clone Tryz.laysM316 s w (by omega)

theorem Below.kept0 {w w' : World} (h : Below w.heap.size w w') : Kept (fun _ => False) w w' := ⟨h.os, h.tape, h.output, h.size, fun k hk _ => h.block k hk⟩

set_option maxHeartbeats 400000 in
theorem clone_any (s : ByteArray) (w : World) (h : s.size ≤ 6) :
    Calls Tryz.prog 151 #[.string s] w fun e w' => e = .returned (.string s) ∧ Kept (fun _ => False) w w' := by
  go_enter Tryz.func151, Tryz.ntmps151
  go_wp2_with (go_at_call 193; refine (slClone_any _ _ h).mono ?_; rintro e w2 ⟨rfl, hb⟩)
  go_ret
  exact ⟨rfl, Below.kept0 hb⟩

end Go.Proofs.YtlehlgipbhfioaaGreat

namespace Go.Proofs.YtlehlgipbhfioaaGreat
open Go.RowKit Go.Maps

theorem nix_snoc (l : List Tm) (t u : Tm) : nix (l ++ [t]) u = match nix l u with
    | some i => some i
    | none => if t = u then some l.length else none := by
  unfold nix
  rw [List.findIdx?_append]
  cases h : List.findIdx? (fun x => decide (x = u)) l with
  | some i => rfl
  | none => by_cases e : t = u <;> simp [List.findIdx?_cons, e]

theorem fst_snoc (l : List Tm) (t : Tm) (n : ByteArray) : fst (l ++ [t]) n = match fst l n with
    | some i => some i
    | none => if t.name = n then some l.length else none := by
  unfold fst
  rw [List.findIdx?_append]
  cases h : List.findIdx? (fun x => decide (x.name = n)) l with
  | some i => rfl
  | none => by_cases e : t.name = n <;> simp [List.findIdx?_cons, e]

theorem fst_mem {l : List Tm} {t : Tm} (h : t ∈ l) : ∃ i, fst l t.name = some i := by
  cases hf : fst l t.name with
  | some i => exact ⟨i, rfl⟩
  | none =>
    have := List.findIdx?_eq_none_iff.1 hf t h
    simp at this
theorem isF_snoc (l : List Tm) (t : Tm) {i : Nat} (hi : i < l.length) : isF (l ++ [t]) i = isF l i := by
  unfold isF
  rw [List.getElem?_append_left hi, List.getElem?_eq_getElem hi]
  obtain ⟨k, hk⟩ := fst_mem (List.getElem_mem hi)
  simp only [fst_snoc, hk]
theorem isF_last (l : List Tm) (t : Tm) : isF (l ++ [t]) l.length = (fst l t.name).isNone := by
  unfold isF
  rw [List.getElem?_append_right (Nat.le_refl _)]
  simp only [Nat.sub_self, List.getElem?_cons_zero, fst_snoc]
  cases hf : fst l t.name with
  | none => simp
  | some i =>
    have hlt : i < l.length := (List.findIdx?_eq_some_iff_getElem.1 hf).1
    simp
    omega
theorem cntF_snoc (l : List Tm) (t : Tm) : cntF (l ++ [t]) = cntF l + (if (fst l t.name).isNone then 1 else 0) := by
  unfold cntF
  rw [List.length_append, List.length_singleton, List.range_succ, List.filter_append, List.length_append]
  have e : (List.range l.length).filter (isF (l ++ [t])) = (List.range l.length).filter (isF l) := List.filter_congr (fun i hi => isF_snoc l t (List.mem_range.1 hi))
  rw [e]
  simp only [List.filter_cons, isF_last, List.filter_nil]
  split <;> simp

theorem nix_none {l : List Tm} {t : Tm} (h : nix l t = none) : t ∉ l := by
  intro hm
  have := List.findIdx?_eq_none_iff.1 h t hm
  simp at this

theorem ekey_lit {t : Tm} (ht : t.ok) : ∃ k, ekey t = k ∧ WideAt.IsKeyLit k := by
  have h := ekey_of ht
  generalize ekey t = k at h
  exact ⟨k, rfl, tLaw.key h⟩
theorem skey_lit {n : ByteArray} (h : n.size ≤ 6) : WideAt.IsKeyLit (skey n) := by
  have h := skey_of h
  generalize skey n = k at h
  exact sLaw.key h

theorem nums_snoc {D : DataW Unit} {l : List Tm} {t : Tm} (h : ∀ u : Tm, u.ok → Says D (ekey u) (nix l u)) (hD : IsMap D) (ht : t.ok) (hn : nix l t = none) :
    ∀ u : Tm, u.ok → Says (D.put (ekey t) (.lit (.int .i64 (l.length : Int)))) (ekey u) (nix (l ++ [t]) u) := by
  intro u hu
  by_cases e : t = u
  · subst e
    rw [nix_snoc, hn]
    simp only [if_true]
    obtain ⟨kk, e, hk⟩ := ekey_lit ht
    rw [e]
    exact Says.put_same hD hk l.length
  · have e1 : nix (l ++ [t]) u = nix l u := by
      rw [nix_snoc]
      cases nix l u <;> simp [e]
    rw [e1]
    exact (h u hu).put_other (fun x => e (ekey_inj hu ht x).symm) _

theorem fsts_snoc {D : DataW Unit} {l : List Tm} {t : Tm} (h : ∀ n : ByteArray, n.size ≤ 6 → Says D (skey n) (fst l n)) (hD : IsMap D) (ht : t.ok) (hn : fst l t.name = none) :
    ∀ n : ByteArray, n.size ≤ 6 → Says (D.put (skey t.name) (.lit (.int .i64 (l.length : Int)))) (skey n) (fst (l ++ [t]) n) := by
  intro n hz
  by_cases e : t.name = n
  · subst e
    rw [fst_snoc, hn]
    simp only [if_true]
    exact Says.put_same hD (skey_lit ht.name) l.length
  · have e1 : fst (l ++ [t]) n = fst l n := by
      rw [fst_snoc]
      cases fst l n <;> simp [e]
    rw [e1]
    exact (h n hz).put_other (fun x => e (skey_inj x).symm) _

theorem fsts_kept {D : DataW Unit} {l : List Tm} {t : Tm} (h : ∀ n : ByteArray, n.size ≤ 6 → Says D (skey n) (fst l n)) {i : Nat} (hn : fst l t.name = some i) :
    ∀ n : ByteArray, n.size ≤ 6 → Says D (skey n) (fst (l ++ [t]) n) := by
  intro n hz
  have e1 : fst (l ++ [t]) n = fst l n := by
    rw [fst_snoc]
    cases hf : fst l n with
    | some i => rfl
    | none =>
      have : ¬ t.name = n := fun e => by rw [e] at hn; rw [hn] at hf; cases hf
      simp [this]
  rw [e1]
  exact h n hz

/-- What add makes of a bank; the number that it answers. -/
def addL (l : List Tm) (t : Tm) : List Tm := match nix l t with
  | some _ => l
  | none => l ++ [t]
def addN (l : List Tm) (t : Tm) : Nat := (nix l t).getD l.length

def BFoot (p : Nat) (ev : Value) (nb fb k : Nat) : Prop := k = p ∨ k = nb ∨ k = fb ∨ ev.ownBlock = some k

set_option maxHeartbeats 400000 in
theorem add_old (w : World) (base p : Nat) (ev : Value) (nb fb : Nat) (l : List Tm) (h : Bk w base p ev nb fb l) (t : Tm) (ht : t.ok) (i : Nat) (hi : nix l t = some i) :
    Calls Tryz.prog 105 #[.pointer (some ⟨p, 0, none⟩), entryV t] w fun e w' => e = .returned (.int .i64 (i : Int)) ∧ Bk w' base p ev nb fb l ∧ Kept0 w w' := by
  unfold entryV entryL
  have W1 := boxed w t
  unfold entryL at W1
  have b0 := W1 0 _ rfl
  have b1 := W1 1 _ rfl
  have b2 := W1 2 _ rfl
  have b3 := W1 3 _ rfl
  have b4 := W1 4 _ rfl
  have b5 := W1 5 _ rfl
  clear W1
  go_enter Tryz.func105, Tryz.ntmps105
  go_wp2_with fail
  generalize hw1 : w.alloc (Obj.cells #[.string t.name, .int .i64 (t.args.length : Int), .int .i64 (t.arg 0 : Int), .int .i64 (t.arg 1 : Int), .int .i64 (t.arg 2 : Int), .int .i64 (t.arg 3 : Int)] 152) = w1 at b0 b1 b2 b3 b4 b5 ⊢
  have K1 : Kept0 w w1 := hw1 ▸ Kept.alloc (Kept.refl _ w) _
  have H1 := h.kept0 K1
  have c0 := H1.c0
  have c1 := H1.c1
  have LN := fun m => (H1.drewN m).lookN ht
  rw [hi] at LN
  simp only [Option.getD_some, Option.isSome_some, entryV, entryL] at LN
  go_quiet (fail)
  go_wp2_with fail
  go_ret
  exact ⟨rfl, H1.drewN _, Kept.drewN K1 _⟩

end Go.Proofs.YtlehlgipbhfioaaGreat

namespace Go.Proofs.YtlehlgipbhfioaaGreat
open Go.RowKit Go.Maps

theorem infoEntry : (Tryz.prog.info? 152).map (fun i => (i.zero, i.size, i.bytes)) = some (some (.agg #[.string ⟨#[]⟩, .int .i64 0, .int .i64 0, .int .i64 0, .int .i64 0, .int .i64 0]), 6, 56) := by kernel_rfl

/-- The cells of a box that holds an entry. -/
def boxF (t : Tm) (j : Nat) : Value := (entryL t).toArray[j]?.getD undef
abbrev Boxed (w : World) (b : Nat) (t : Tm) : Prop := w.rowIs b 152 6 (boxF t)
theorem boxed_row (w : World) (t : Tm) : Boxed (w.alloc (.cells (entryL t).toArray 152)) w.heap.size t := made_row w (entryL t).toArray 152

theorem Boxed.c0 {w : World} {b : Nat} {t : Tm} (h : Boxed w b t) : w.cell? ⟨b, 0, none⟩ = some (.string t.name) := h.cell (i := 0) (by omega)
theorem Boxed.c1 {w : World} {b : Nat} {t : Tm} (h : Boxed w b t) : w.cell? ⟨b, 1, none⟩ = some (.int .i64 (t.args.length : Int)) := h.cell (i := 1) (by omega)
theorem Boxed.c2 {w : World} {b : Nat} {t : Tm} (h : Boxed w b t) : w.cell? ⟨b, 2, none⟩ = some (.int .i64 (t.arg 0 : Int)) := h.cell (i := 2) (by omega)
theorem Boxed.c3 {w : World} {b : Nat} {t : Tm} (h : Boxed w b t) : w.cell? ⟨b, 3, none⟩ = some (.int .i64 (t.arg 1 : Int)) := h.cell (i := 3) (by omega)
theorem Boxed.c4 {w : World} {b : Nat} {t : Tm} (h : Boxed w b t) : w.cell? ⟨b, 4, none⟩ = some (.int .i64 (t.arg 2 : Int)) := h.cell (i := 4) (by omega)
theorem Boxed.c5 {w : World} {b : Nat} {t : Tm} (h : Boxed w b t) : w.cell? ⟨b, 5, none⟩ = some (.int .i64 (t.arg 3 : Int)) := h.cell (i := 5) (by omega)
theorem Boxed.kept0 {w w' : World} {b : Nat} {t : Tm} (h : Boxed w b t) (K : Kept0 w w') : Boxed w' b t := World.rowIs.of_block h (K.block b (World.rowIs.lt h) (fun e => e))
theorem Boxed.named {w : World} {b : Nat} {t : Tm} (h : Boxed w b t) : Boxed (w.setCell ⟨b, 0, none⟩ (.string t.name)) b t :=
  World.rowIs.congr (World.rowIs.set h 0 (.string t.name)) (fun j hj => by
    by_cases e : j = 0
    · subst e; rfl
    · simp [e])

/-- A bank's row and maps, whatever they say. -/
structure Bq (w : World) (base p : Nat) (ev : Value) (nb fb : Nat) (l : List Tm) (Dn Df : DataW Unit) : Prop where
  bank : w.rowIs p 84 3 (bankC ev nb fb)
  rows : w.ownsRow base 152 6 ev l.length (l.flatMap entryL)
  nums : mapIs w 152 nb Dn
  fsts : mapIs w 9 fb Df
  pn : p ≠ nb
  pf : p ≠ fb
  nf : nb ≠ fb
  ep : ev.ownBlock ≠ some p
  en : ev.ownBlock ≠ some nb
  ef : ev.ownBlock ≠ some fb
  bp : base ≤ p
  bn : base ≤ nb
  bf : base ≤ fb

structure Tells (l : List Tm) (Dn Df : DataW Unit) : Prop where
  nsize : Maps.size Dn = l.length
  nsays : ∀ t : Tm, t.ok → Says Dn (ekey t) (nix l t)
  fsize : Maps.size Df = cntF l
  fsays : ∀ n : ByteArray, n.size ≤ 6 → Says Df (skey n) (fst l n)
  oks : ∀ t ∈ l, t.ok
  nodup : l.Nodup
  small : l.length ≤ 1000

theorem Bk.split {w : World} {base p : Nat} {ev : Value} {nb fb : Nat} {l : List Tm} (h : Bk w base p ev nb fb l) : ∃ Dn Df, Bq w base p ev nb fb l Dn Df ∧ Tells l Dn Df := by
  obtain ⟨Dn, n1, n2, n3⟩ := h.nums
  obtain ⟨Df, f1, f2, f3⟩ := h.fsts
  exact ⟨Dn, Df, ⟨h.bank, h.rows, n1, f1, h.pn, h.pf, h.nf, h.ep, h.en, h.ef, h.bp, h.bn, h.bf⟩, ⟨n2, n3, f2, f3, h.oks, h.nodup, h.small⟩⟩
theorem Bq.whole {w : World} {base p : Nat} {ev : Value} {nb fb : Nat} {l : List Tm} {Dn Df : DataW Unit} (h : Bq w base p ev nb fb l Dn Df) (T : Tells l Dn Df) : Bk w base p ev nb fb l :=
  ⟨h.bank, h.rows, ⟨Dn, h.nums, T.nsize, T.nsays⟩, ⟨Df, h.fsts, T.fsize, T.fsays⟩, T.oks, T.nodup, h.pn, h.pf, h.nf, h.ep, h.en, h.ef, h.bp, h.bn, h.bf, T.small⟩

theorem mapIs_type {w : World} {b k : Nat} {kt e : TypeId} {D : DataW Unit} (h : mapIs w kt b D) {base size : Nat} {v : Value} {xs : List Value} (hr : w.ownsRow base e size v k xs) : v.ownBlock ≠ some b := by
  intro hb
  obtain ⟨es, clock, hm, _⟩ := h
  rcases hr.2 with ⟨rfl, _⟩ | ⟨g, cap, cur, rfl, _, hg, _⟩
  · simp [Value.ownBlock] at hb
  · simp [Value.ownBlock] at hb
    subst hb
    rw [hm] at hg
    cases hg

theorem six_news (w : World) (m : Nat) (t : Tm) : ∀ j u, (entryL t)[j]? = some u → ((w.drewN m).alloc (.cells (entryL t).toArray 152)).cell? ((⟨w.heap.size, 0, none⟩ : Addr).add j) = some u := by
  intro j u hj
  have e := boxed (w.drewN m) t j u hj
  have ea : ((⟨w.heap.size, 0, none⟩ : Addr).add j) = ⟨w.heap.size, j, none⟩ := by
    simp [Addr.add]
    intro e0
    rw [e0]
  rw [ea]
  exact e

/-- A term is kept in the row: the maps are as they were. -/
theorem Bq.appended {w w1 : World} {base p : Nat} {ev : Value} {nb fb : Nat} {l : List Tm} {Dn Df : DataW Unit} (h : Bq w base p ev nb fb l Dn Df) (m : Nat) (O : Obj) (t : Tm) (v' : Value)
    (hown : w1.ownsRow base 152 6 v' (l.length + 1) (l.flatMap entryL ++ entryL t)) (hgrow : ((w.drewN m).alloc O).grownBy w1 ev.ownBlock)
    (hloc : v'.ownBlock = ev.ownBlock ∨ ∀ k, v'.ownBlock = some k → ((w.drewN m).alloc O).heap.size ≤ k) :
    Bq (w1.setCell ⟨p, 0, none⟩ v') base p v' nb fb (l ++ [t]) Dn Df ∧ Kept (BFoot p ev nb fb) w (w1.setCell ⟨p, 0, none⟩ v') ∧ (v'.ownBlock = ev.ownBlock ∨ ∀ k, v'.ownBlock = some k → w.heap.size ≤ k) ∧
      w1.cell? ⟨p, 0, none⟩ = some ev ∧ w1.frozen? ⟨p, 0, none⟩ = false := by
  have hb0 : ((w.drewN m).alloc O).rowIs p 84 3 (bankC ev nb fb) := World.rowIs.alloc (World.rowIs.of_block h.bank rfl) O
  have hp : w1.rowIs p 84 3 (bankC ev nb fb) := hb0.of_block (hgrow.block p hb0.lt (fun e => h.ep e.symm))
  have n0 : mapIs ((w.drewN m).alloc O) 152 nb Dn := World.ownsMap.alloc h.nums O
  have f0 : mapIs ((w.drewN m).alloc O) 9 fb Df := World.ownsMap.alloc h.fsts O
  have n1 : mapIs w1 152 nb Dn := World.ownsMap.kept n0 hgrow (fun e => h.en e.symm)
  have f1 : mapIs w1 9 fb Df := World.ownsMap.kept f0 hgrow (fun e => h.ef e.symm)
  have np := rowIs_type hp (by decide) hown
  refine ⟨⟨(hp.set 0 v').congr ?_, ?_, World.ownsMap.setCell n1 (Ne.symm h.pn) _, World.ownsMap.setCell f1 (Ne.symm h.pf) _, h.pn, h.pf, h.nf, np, mapIs_type n1 hown, mapIs_type f1 hown, h.bp, h.bn, h.bf⟩, ?_, ?_, hp.cell (i := 0) (by omega), hp.frozen 0⟩
  · intro i hi
    rcases (by omega : i = 0 ∨ i = 1 ∨ i = 2) with rfl | rfl | rfl <;> simp [bankC]
  · rw [List.length_append, List.flatMap_append]
    simpa using ownsRow_setCell_other hown np _
  · exact Kept.setCell (S := BFoot p ev nb fb) (p := ⟨p, 0, none⟩) (Kept.grown (((Kept.refl (BFoot p ev nb fb) w).drewN m).alloc O) hgrow (fun k hk => Or.inr (Or.inr (Or.inr hk)))) (Or.inl rfl) _
  · rcases hloc with e | e
    · exact Or.inl e
    · exact Or.inr fun k hk => by have := e k hk; simp at this; omega

theorem Kept1.of_grown {b : Nat} {w w' : World} (h : w.grownBy w' (some b)) : Kept1 b w w' := ⟨h.os, h.tape, h.output, h.size, fun k hk hs => h.block k hk (fun e => hs (by simpa using e))⟩

theorem Bq.drew {w : World} {base p : Nat} {ev : Value} {nb fb : Nat} {l : List Tm} {Dn Df : DataW Unit} (h : Bq w base p ev nb fb l Dn Df) : Bq w.drew base p ev nb fb l Dn Df :=
  ⟨h.bank, h.rows, h.nums, h.fsts, h.pn, h.pf, h.nf, h.ep, h.en, h.ef, h.bp, h.bn, h.bf⟩
theorem Bq.drewN {w : World} {base p : Nat} {ev : Value} {nb fb : Nat} {l : List Tm} {Dn Df : DataW Unit} (h : Bq w base p ev nb fb l Dn Df) (m : Nat) : Bq (w.drewN m) base p ev nb fb l Dn Df :=
  ⟨h.bank, h.rows, h.nums, h.fsts, h.pn, h.pf, h.nf, h.ep, h.en, h.ef, h.bp, h.bn, h.bf⟩

theorem Bq.storeN {w : World} {base p : Nat} {ev : Value} {nb fb : Nat} {l : List Tm} {Dn Df : DataW Unit} (h : Bq w base p ev nb fb l Dn Df) {t : Tm} (ht : t.ok) {n : Nat} (hn : n < 100000) (hs : Maps.size Dn < maxLen) :
    ∃ w', (Instr.mapUpdate 80 (.map (some nb)) (entryV t) (.int .i64 (n : Int))).run Tryz.prog w = .ok () w' ∧ Bq w' base p ev nb fb l (Dn.put (ekey t) (.lit (.int .i64 (n : Int)))) Df ∧ Kept1 nb w w' := by
  obtain ⟨w', hr, ho, hturn⟩ := World.ownsMap.store h.nums tLaw Tryz.underlying80 hs (ekey_of ht) (plainElem_int Tryz.underlying3 (wf64 hn))
  have g := hturn.grown
  exact ⟨w', hr, ⟨h.bank.of_block (g.block p h.bank.lt (by simpa using h.pn)), h.rows.kept g (Or.inr h.en), mapIs_of ho, World.ownsMap.kept h.fsts g (by simpa using Ne.symm h.nf), h.pn, h.pf, h.nf, h.ep, h.en, h.ef, h.bp, h.bn, h.bf⟩, Kept1.of_grown g⟩

theorem Bq.storeF {w : World} {base p : Nat} {ev : Value} {nb fb : Nat} {l : List Tm} {Dn Df : DataW Unit} (h : Bq w base p ev nb fb l Dn Df) {s : ByteArray} (ht : s.size ≤ 6) {n : Nat} (hn : n < 100000) (hs : Maps.size Df < maxLen) :
    ∃ w', (Instr.mapUpdate 81 (.map (some fb)) (.string s) (.int .i64 (n : Int))).run Tryz.prog w = .ok () w' ∧ Bq w' base p ev nb fb l Dn (Df.put (skey s) (.lit (.int .i64 (n : Int)))) ∧ Kept1 fb w w' := by
  obtain ⟨w', hr, ho, hturn⟩ := World.ownsMap.store h.fsts sLaw Tryz.underlying81 hs (skey_of ht) (plainElem_int Tryz.underlying3 (wf64 hn))
  have g := hturn.grown
  exact ⟨w', hr, ⟨h.bank.of_block (g.block p h.bank.lt (by simpa using h.pf)), h.rows.kept g (Or.inr h.ef), World.ownsMap.kept h.nums g (by simpa using h.nf), mapIs_of ho, h.pn, h.pf, h.nf, h.ep, h.en, h.ef, h.bp, h.bn, h.bf⟩, Kept1.of_grown g⟩

/-- 'm[k] = v' as one step of a region that draws. -/
theorem step_mapUpdate {P : Program} {ops : Array Oper} {o : Oper} {a : Act} {w : World} {K : Act → World → Prop} {Q : Exit → Act → World → Prop} {E : Prop} {R : World → Prop}
    (hg : o.guard = none) (m x v : Operand) (t : TypeId) (hop : o.op = Op.mapUpdate t m x v) (mv key val : Value) (hm : a.eval m = mv) (hx : a.eval x = key) (hv : a.eval v = val)
    (hex : ∃ w', (Instr.mapUpdate t mv key val).run P w = .ok () w' ∧ R w') (hK : ∀ w', R w' → K (a.put o.dst undef) w') :
    if Region.wanted o (yielded ops a.tmps) = true then Oper.wp P o a w K Q else E := by
  have hw : Region.wanted o (yielded ops a.tmps) = true := by simp [Region.wanted, hg]
  rw [if_pos hw]
  obtain ⟨w', hrun, r⟩ := hex
  unfold Oper.wp
  simp [execOp, hop, hm, hx, hv, hrun, Result.andThen]
  exact hK w' r

theorem Tells.nput {l : List Tm} {Dn Df : DataW Unit} (T : Tells l Dn Df) {t : Tm} (ht : t.ok) (hi : nix l t = none) (hD : Tidy Dn) : Maps.size (Dn.put (ekey t) (.lit (.int .i64 (l.length : Int)))) = l.length + 1 := by
  have hh := (T.nsays t ht).1
  rw [hi] at hh
  rw [size_put hD, hh, T.nsize]
  rfl
theorem nodup_snoc {l : List Tm} {t : Tm} (h : l.Nodup) (hi : nix l t = none) : (l ++ [t]).Nodup := by
  rw [List.nodup_append]
  exact ⟨h, by simp, fun a ha b hb e => by simp at hb; subst hb; subst e; exact nix_none hi ha⟩
theorem oks_snoc {l : List Tm} {t : Tm} (h : ∀ u ∈ l, u.ok) (ht : t.ok) : ∀ u ∈ l ++ [t], u.ok := by
  intro u hu
  rcases List.mem_append.1 hu with hu | hu
  · exact h u hu
  · simp at hu; subst hu; exact ht
theorem Tells.snoc_new {l : List Tm} {Dn Df : DataW Unit} (T : Tells l Dn Df) {t : Tm} (ht : t.ok) (hi : nix l t = none) (hf : fst l t.name = none) (hlt : l.length < 1000) (hD : Tidy Dn) (hF : Tidy Df) :
    Tells (l ++ [t]) (Dn.put (ekey t) (.lit (.int .i64 (l.length : Int)))) (Df.put (skey t.name) (.lit (.int .i64 (l.length : Int)))) := by
  refine ⟨by rw [T.nput ht hi hD]; simp, nums_snoc T.nsays hD.isMap ht hi, ?_, fsts_snoc T.fsays hF.isMap ht hf, oks_snoc T.oks ht, nodup_snoc T.nodup hi, by simp; omega⟩
  have hh := (T.fsays t.name ht.name).1
  rw [hf] at hh
  rw [size_put hF, hh, T.fsize, cntF_snoc, hf]
  rfl
theorem Tells.snoc_old {l : List Tm} {Dn Df : DataW Unit} (T : Tells l Dn Df) {t : Tm} (ht : t.ok) (hi : nix l t = none) {i : Nat} (hf : fst l t.name = some i) (hlt : l.length < 1000) (hD : Tidy Dn) :
    Tells (l ++ [t]) (Dn.put (ekey t) (.lit (.int .i64 (l.length : Int)))) Df := by
  refine ⟨by rw [T.nput ht hi hD]; simp, nums_snoc T.nsays hD.isMap ht hi, ?_, fsts_kept T.fsays hf, oks_snoc T.oks ht, nodup_snoc T.nodup hi, by simp; omega⟩
  rw [T.fsize, cntF_snoc, hf]
  rfl

set_option maxHeartbeats 1000000 in
theorem add_new (w : World) (base p : Nat) (ev : Value) (nb fb : Nat) (l : List Tm) (h : Bk w base p ev nb fb l) (t : Tm) (ht : t.ok) (hi : nix l t = none) (hlt : l.length < 1000) (hbase : base ≤ w.heap.size) :
    Calls Tryz.prog 105 #[.pointer (some ⟨p, 0, none⟩), entryV t] w fun e w' => e = .returned (.int .i64 (l.length : Int)) ∧ ∃ ev', Bk w' base p ev' nb fb (l ++ [t]) ∧ Kept (BFoot p ev nb fb) w w' ∧ (ev'.ownBlock = ev.ownBlock ∨ ∀ k, ev'.ownBlock = some k → w.heap.size ≤ k) := by
  unfold entryV
  have bR := boxed_row w t
  have W1 : (entryL t).toArray = #[.string t.name, .int .i64 (t.args.length : Int), .int .i64 (t.arg 0 : Int), .int .i64 (t.arg 1 : Int), .int .i64 (t.arg 2 : Int), .int .i64 (t.arg 3 : Int)] := rfl
  rw [W1] at bR ⊢
  clear W1
  obtain ⟨ea, ec, rfl⟩ := h.eform
  have hpl := h.bank.lt
  obtain ⟨Dn0, Df0, hq0, _⟩ := h.split
  have hnl := World.ownsMap.lt hq0.nums
  have hfl := World.ownsMap.lt hq0.fsts
  have hev : (Value.slice ea l.length ec).ownBlock ≠ some w.heap.size := fun e => by have := (h.rows.lt _ e).2; omega
  clear hq0
  go_enter Tryz.func105, Tryz.ntmps105
  go_wp2_with fail
  generalize hw1 : w.alloc (Obj.cells #[.string t.name, .int .i64 (t.args.length : Int), .int .i64 (t.arg 0 : Int), .int .i64 (t.arg 1 : Int), .int .i64 (t.arg 2 : Int), .int .i64 (t.arg 3 : Int)] 152) = w1 at bR ⊢
  have K1 : Kept0 w w1 := hw1 ▸ Kept.alloc (Kept.refl _ w) _
  have hsz1 : w.heap.size < w1.heap.size := bR.lt
  clear hw1
  have H1 := h.kept0 K1
  generalize hbx : w.heap.size = bx at *
  have hpb : ¬ p = bx := by omega
  have c1 := H1.c1
  have x0 := bR.c0
  have x1 := bR.c1
  have x2 := bR.c2
  have x3 := bR.c3
  have x4 := bR.c4
  have x5 := bR.c5
  have LN := fun m => (H1.drewN m).lookN ht
  rw [hi] at LN
  simp only [Option.getD_none, Option.isSome_none, entryV, entryL] at LN
  go_quiet (fail)
  clear LN x1 x2 x3 x4 x5 c1
  have bRd := fun m => (World.rowIs.of_block bR rfl : Boxed (w1.drewN m) bx t)
  go_wp2_with (go_at_call 151; go_loud (refine (clone_any _ _ ht.name).mono ?_; rintro e w2 ⟨rfl, K2⟩; have bR2 := Boxed.kept0 (bRd _) K2; have y0 := Boxed.c0 bR2; have f0 := World.rowIs.frozen bR2 0; have H2 := Bk.kept0 (H1.drewN _) K2; have z0 := H2.c0; have hpb' := hpb))
  have H3 := Bk.kept1 H2 (Kept1.set (Kept.refl _ w2) 0 (.string t.name) : Kept1 bx w2 _) hpb (by omega) (by omega) hev
  have K3 : Kept0 w (w2.setCell ⟨bx, 0, none⟩ (.string t.name)) := Kept.mono (S := fun k => k = bx) (Kept1.set (Kept.mono ((Kept.drewN K1 nq).trans K2) (fun _ _ x => x.elim)) 0 _) (fun k hk e => by omega)
  have b3 := Boxed.named bR2
  clear H1 H2 K1 K2 bR bR2 bRd y0 f0 z0 x0 hpb'
  generalize w2.setCell ⟨bx, 0, none⟩ (.string t.name) = w3 at *
  obtain ⟨Dn, Df, Q3, T3⟩ := H3.split
  clear H3
  have hb3 : base ≤ w3.heap.size := by have := K3.size; omega
  have y0 := b3.c0
  have y1 := b3.c1
  have y2 := b3.c2
  have y3 := b3.c3
  have y4 := b3.c4
  have y5 := b3.c5
  have c0 : w3.cell? ⟨p, 0, none⟩ = some (.slice ea l.length ec) := Q3.bank.cell (by omega)
  have A0 : ∀ m O, ((w3.drewN m).alloc O).cell? ⟨p, 0, none⟩ = some (.slice ea l.length ec) := fun m O => World.rowIs.cell (World.rowIs.alloc (World.rowIs.of_block Q3.bank rfl : (w3.drewN m).rowIs p 84 3 (bankC (.slice ea l.length ec) nb fb)) O) (by omega)
  have A1 : ∀ O, (w3.alloc O).cell? ⟨p, 0, none⟩ = some (.slice ea l.length ec) := fun O => World.rowIs.cell (World.rowIs.alloc Q3.bank O) (by omega)
  have OWN : ∀ m O, ((w3.drewN m).alloc O).ownsRow base 152 6 (.slice ea l.length ec) l.length (l.flatMap entryL) := fun m O => World.ownsRow.alloc (w := w3.drewN m) Q3.rows O
  have NEW := fun m => six_news w3 m t
  have hEL : entryL t = [.string t.name, .int .i64 (t.args.length : Int), .int .i64 (t.arg 0 : Int), .int .i64 (t.arg 1 : Int), .int .i64 (t.arg 2 : Int), .int .i64 (t.arg 3 : Int)] := rfl
  simp only [hEL] at NEW
  obtain ⟨i0, hi0, hz0, hz1, hz2⟩ := info_parts infoEntry
  go_region_law (refine step_append_here rfl (.tmp 34) (.tmp 36) 82 rfl base 152 i0 _ 6 56 Tryz.underlying82 hi0 hz0 hz1 hz2 rfl (by decide) _ l.length (l.flatMap entryL) (by simp [Act.eval]; rfl) (by exact OWN _ _) ⟨w3.heap.size, 0, none⟩ 1 1 [.string t.name, .int .i64 (t.args.length : Int), .int .i64 (t.arg 0 : Int), .int .i64 (t.arg 1 : Int), .int .i64 (t.arg 2 : Int), .int .i64 (t.arg 3 : Int)] (by simp [Act.eval]) rfl (by exact NEW _) (by simp [Value.oneCell']) (by unfold maxLen; omega) (by omega) (by simp; omega) ?_; intro v' w4 hown1 hgrow hloc; obtain ⟨Q4, K4, L4, kp1, kf1⟩ := Bq.appended Q3 _ _ t v' hown1 hgrow hloc; obtain ⟨b1, cap1, hv1⟩ := ownsRow_succ hown1; subst hv1)
  all_goals
    clear hown1 hgrow hloc kp1 kf1 A0 A1 OWN NEW y0 y1 y2 y3 y4 y5 c0
    go_wp2_with fail
    generalize hv5 : Value.slice (some (⟨b1, 0, none⟩ : Addr)) (l.length + 1) cap1 = v5 at *
    have b5 : Boxed (w4.setCell ⟨p, 0, none⟩ v5) bx t := World.rowIs.of_block b3 (K4.block bx (World.rowIs.lt b3) (fun x => by
      rcases x with x | x | x | x
      · exact hpb x.symm
      · omega
      · omega
      · exact hev x))
    generalize w4.setCell ⟨p, 0, none⟩ v5 = w5 at *
    have d1 : w5.cell? ⟨p, 1, none⟩ = some (.map (some nb)) := Q4.bank.cell (i := 1) (by omega)
    have y0 := b5.c0
    have y1 := b5.c1
    have y2 := b5.c2
    have y3 := b5.c3
    have y4 := b5.c4
    have y5 := b5.c5
    have hsn : Maps.size Dn < maxLen := by have := T3.nsize; unfold maxLen; omega
    obtain ⟨w6, hr6, Q6, K6⟩ := Bq.storeN Q4.drew ht (n := l.length) (by omega) hsn
    simp only [entryV, hEL] at hr6
    go_region
    clear hr6 y1 y2 y3 y4 y5 d1
    have b6 : Boxed w6 bx t := World.rowIs.of_block (World.rowIs.of_block b5 rfl : Boxed w5.drew bx t) (K6.block bx (World.rowIs.lt b5) (by omega))
    have y0 := b6.c0
    have d2 : w6.cell? ⟨p, 2, none⟩ = some (.map (some fb)) := Q6.bank.cell (i := 2) (by omega)
    have LF := fun m => Says.look (Q6.drewN m).fsts (T3.fsays t.name ht.name) sLaw Tryz.underlying81 (skey_of ht.name)
    cases hf : fst l t.name with
    | none =>
      rw [hf] at LF
      simp only [Option.getD_none, Option.isSome_none] at LF
      go_wp2_with fail
      go_quiet (fail)
      go_wp2_with fail
      clear LF
      have hsf : Maps.size Df < maxLen := by have := T3.fsize; have := cntF_le l; unfold maxLen; omega
      have z0 : ∀ m, (w6.drewN m).cell? ⟨bx, 0, none⟩ = some (.string t.name) := fun m => y0
      have z2 : ∀ m, (w6.drewN m).cell? ⟨p, 2, none⟩ = some (.map (some fb)) := fun m => d2
      obtain ⟨w7, hr7, Q7, K7⟩ := Bq.storeF (Q6.drewN (nq + 1)) ht.name (n := l.length) (by omega) hsf
      go_region
      all_goals
        go_wp2_with fail
        go_ret
        refine ⟨rfl, v5, Q7.whole (T3.snoc_new ht hi hf hlt (World.ownsMap.tidy Q3.nums tLaw) (World.ownsMap.tidy Q3.fsts sLaw)), ?_, ?_⟩
        · exact ((Kept.mono K3 (fun _ _ x => x.elim)).trans K4).drew.trans ((Kept.mono K6 (fun _ _ x => Or.inr (Or.inl x))).drewN _ |>.trans (Kept.mono K7 (fun _ _ x => Or.inr (Or.inr (Or.inl x)))))
        · exact L4.imp id (fun x k hk => Nat.le_trans K3.size (x k hk))
    | some i =>
      rw [hf] at LF
      simp only [Option.getD_some, Option.isSome_some] at LF
      go_wp2_with fail
      go_quiet (fail)
      go_wp2_with fail
      go_ret
      refine ⟨rfl, v5, (Q6.drewN _).whole (T3.snoc_old ht hi hf hlt (World.ownsMap.tidy Q3.nums tLaw)), ?_, ?_⟩
      · exact (((Kept.mono K3 (fun _ _ x => x.elim)).trans K4).drew.trans (Kept.mono K6 (fun _ _ x => Or.inr (Or.inl x)))).drewN _
      · exact L4.imp id (fun x k hk => Nat.le_trans K3.size (x k hk))

end Go.Proofs.YtlehlgipbhfioaaGreat

namespace Go.Proofs.YtlehlgipbhfioaaGreat
open Go.RowKit Go.Maps

theorem add_in (w : World) (base p : Nat) (ev : Value) (nb fb : Nat) (l : List Tm) (h : Bk w base p ev nb fb l) (t : Tm) (ht : t.ok) (hlt : l.length < 1000) (hbase : base ≤ w.heap.size) :
    Calls Tryz.prog 105 #[.pointer (some ⟨p, 0, none⟩), entryV t] w fun e w' => e = .returned (.int .i64 (addN l t : Int)) ∧ ∃ ev', Bk w' base p ev' nb fb (addL l t) ∧ Kept (BFoot p ev nb fb) w w' ∧ (ev'.ownBlock = ev.ownBlock ∨ ∀ k, ev'.ownBlock = some k → w.heap.size ≤ k) := by
  cases hi : nix l t with
  | some i =>
    refine (add_old w base p ev nb fb l h t ht i hi).mono ?_
    rintro e w' ⟨rfl, H, K⟩
    exact ⟨by simp [addN, hi], ev, by simpa [addL, hi] using H, Kept.mono K (fun _ _ x => x.elim), Or.inl rfl⟩
  | none =>
    refine (add_new w base p ev nb fb l h t ht hi hlt hbase).mono ?_
    rintro e w' ⟨rfl, ev', H, K, L⟩
    exact ⟨by simp [addN, hi], ev', by simpa [addL, hi] using H, K, L⟩

theorem Tells.empty : Tells [] (.map []) (.map []) :=
  ⟨rfl, fun t _ => ⟨rfl, rfl⟩, rfl, fun n _ => ⟨rfl, rfl⟩, by simp, List.nodup_nil, by simp⟩

theorem made_bank (w : World) : Bk (((w.alloc (Obj.map #[] 0)).alloc (Obj.map #[] 0)).alloc (Obj.cells #[.slice none 0 0, .map (some w.heap.size), .map (some (w.heap.size + 1))] 84)) w.heap.size (w.heap.size + 1 + 1) (.slice none 0 0) w.heap.size (w.heap.size + 1) [] := by
  have h1 : (w.alloc (Obj.map #[] 0)).heap.size = w.heap.size + 1 := by simp
  have h2 : ((w.alloc (Obj.map #[] 0)).alloc (Obj.map #[] 0)).heap.size = w.heap.size + 1 + 1 := by simp
  have m1 := World.ownsMap_made (H := Unit) w Tryz.prog 152 (plainElem Tryz.prog 3)
  have m2 := World.ownsMap_made (H := Unit) (w.alloc (Obj.map #[] 0)) Tryz.prog 9 (plainElem Tryz.prog 3)
  have r := made_row ((w.alloc (Obj.map #[] 0)).alloc (Obj.map #[] 0)) #[.slice none 0 0, .map (some w.heap.size), .map (some (w.heap.size + 1))] 84
  rw [h1] at m2
  rw [h2] at r
  refine Bq.whole (Dn := .map []) (Df := .map []) ⟨World.rowIs.congr r ?_, World.ownsRow_nil _ _ _ _, mapIs_of ((m1.alloc _).alloc _), mapIs_of (m2.alloc _), by omega, by omega, by omega, by simp [Value.ownBlock], by simp [Value.ownBlock], by simp [Value.ownBlock], by omega, by omega, by omega⟩ Tells.empty
  intro i hi
  have hi' : i < 3 := hi
  rcases (by omega : i = 0 ∨ i = 1 ∨ i = 2) with rfl | rfl | rfl <;> rfl

set_option maxHeartbeats 400000 in
theorem tNew_any (w : World) :
    Calls Tryz.prog 12 #[] w fun e w' => ∃ p nb fb, e = .returned (.pointer (some ⟨p, 0, none⟩)) ∧ Bk w' w.heap.size p (.slice none 0 0) nb fb [] ∧ Below w.heap.size w w' := by
  have hmm := @run_makeMap Tryz.prog
  go_enter Tryz.func12, Tryz.ntmps12
  go_wp2_with fail
  go_ret
  refine ⟨_, _, _, rfl, made_bank w, ?_⟩
  exact Kept.below (((Kept.refl (fun _ => False) w).alloc _ |>.alloc _).alloc _) (Nat.le_refl _) (fun _ x => x.elim)

end Go.Proofs.YtlehlgipbhfioaaGreat

namespace Go.Proofs.YtlehlgipbhfioaaGreat
open Go.RowKit Go.Maps

theorem gRow : (98 : TypeId) < Tryz.prog.types.size := of_decide_eq_true (by kernel_rfl)
theorem gCells : Tryz.prog.cellsOf 98 = 5 := by kernel_rfl
theorem gKeyType : Tryz.prog.keyType 98 = true := by kernel_rfl
theorem gKeyAt : Tryz.prog.keyTypeAt 3 98 = true := by kernel_rfl
theorem gLaw : Keyed Tryz.prog 98 := Keyed.of_law (deep_law_laid tLaid (m := 3) (by omega) gRow gKeyAt (by rw [Tryz.underlying98]))

/-- A signature, as the program keeps it. -/
def sigL (s : Tm) : List Value := [.string s.name, .int .i64 (s.arg 0 : Int), .int .i64 (s.arg 1 : Int), .int .i64 (s.arg 2 : Int), .int .i64 (s.arg 3 : Int)]
def sigV (s : Tm) : Value := .agg (sigL s).toArray

theorem sig_formed (t : Tm) : (sigV t).formed Tryz.prog 98 = true := by simp [sigV, sigL, Value.formed, Tryz.underlying98, gCells]

theorem sig_key (t : Tm) (h : t.ok) : ∃ kl, keyOf Tryz.prog 98 (sigV t) = some kl := by
  have h0 : t.name.size ≤ maxLen := Nat.le_trans h.name (by decide)
  have g0 : (Lit.int .i64 (t.arg 0 : Int)).wf = true := wf64 (by have := h.arg 0; omega)
  have g1 : (Lit.int .i64 (t.arg 1 : Int)).wf = true := wf64 (by have := h.arg 1; omega)
  have g2 : (Lit.int .i64 (t.arg 2 : Int)).wf = true := wf64 (by have := h.arg 2; omega)
  have g3 : (Lit.int .i64 (t.arg 3 : Int)).wf = true := wf64 (by have := h.arg 3; omega)
  unfold keyOf
  rw [Tryz.underlying98]
  simp only [gKeyType, sig_formed]
  obtain ⟨m, hm⟩ : ∃ m, Tryz.prog.types.size + 1 = m + 3 := ⟨Tryz.prog.types.size - 2, by have h9 := gRow; generalize Tryz.prog.types.size = z at h9 ⊢; exact (by have h8 : 3 ≤ z := Nat.le_trans (by decide) (Nat.le_of_lt h9); omega)⟩
  rw [hm]
  have hr : List.range 4 = [0, 1, 2, 3] := rfl
  simp [Program.keyLits, Tryz.underlying98, Tryz.underlying96, Tryz.underlying3, Tryz.underlying9, gCells, tCells4, tCellsI, tCellsS, sigV, sigL, Value.cells, hr, h0, g0, g1, g2, g3]

noncomputable def gkey (t : Tm) : Lit := (keyOf Tryz.prog 98 (sigV t)).getD (.bool false)
theorem gkey_of {t : Tm} (h : t.ok) : keyOf Tryz.prog 98 (sigV t) = some (gkey t) := by
  obtain ⟨kl, hk⟩ := sig_key t h
  simp [gkey, hk]
/-- A signature that may be asked for. -/
structure Sk (s : Tm) : Prop where
  ok : s.ok
  four : s.args.length = 4
theorem sigV_inj {t u : Tm} (ht : Sk t) (hu : Sk u) (h : sigV t = sigV u) : t = u := by
  have h4 := ht.four
  have k4 := hu.four
  have hok := ht.ok
  clear ht hu
  obtain ⟨n, a⟩ := t
  obtain ⟨m, b⟩ := u
  simp [sigV, sigL, Tm.arg] at h
  obtain ⟨h0, h2, h3, h4', h5⟩ := h
  have hl : a.length = b.length := by simp at h4 k4; omega
  have : a = b := args_ext hl hok.args (fun i hi => by
    rcases (by omega : i = 0 ∨ i = 1 ∨ i = 2 ∨ i = 3) with rfl | rfl | rfl | rfl <;> simp only [List.getD_eq_getElem?_getD] <;> omega)
  rw [h0, this]
theorem gkey_inj {t u : Tm} (ht : Sk t) (hu : Sk u) (h : gkey t = gkey u) : t = u :=
  sigV_inj ht hu (gLaw.inj (gkey_of ht.ok) (by rw [h]; exact gkey_of hu.ok))
theorem gkey_lit {t : Tm} (ht : t.ok) : ∃ k, gkey t = k ∧ WideAt.IsKeyLit k := by
  have h := gkey_of ht
  generalize gkey t = k at h
  exact ⟨k, rfl, gLaw.key h⟩

theorem sg_sk {l : List Tm} (hb : Cc.Bd l) {lo : Nat → Nat} (hle : ∀ i, i < l.length → lo i ≤ i) (hl : l.length ≤ 1000) {n : Nat} {t : Tm} (ht : l[n]? = some t) (hok : t.ok) : Sk (Cc.sg lo t) := by
  have ha : ∀ k, Cc.ar lo t k < 1000 := by
    intro k
    unfold Cc.ar
    cases e : t.args[k]? with
    | none => simp
    | some a =>
      have h1 := hb.args n t ht a (List.mem_of_getElem? e)
      have h2 := hle a h1
      show lo a < 1000
      omega
  refine ⟨⟨hok.name, by simp [Cc.sg], ?_⟩, rfl⟩
  intro a hm
  simp [Cc.sg] at hm
  rcases hm with rfl | rfl | rfl | rfl <;> exact ha _

/-- Blocks that never change. -/
def Sat (st : List (Nat × Obj)) (w : World) : Prop := ∀ x ∈ st, w.heap[x.1]? = some x.2
/-- A slice of numbers in them. -/
def UseIs (st : List (Nat × Obj)) (v : Value) (xs : List Nat) : Prop :=
  ∃ a cap, v = .slice a xs.length cap ∧ xs.length ≤ cap ∧ (xs = [] ∨ ∃ (b off : Nat) (c : Array Value) (fz : Nat × Nat), a = some ⟨b, off, none⟩ ∧ (b, Obj.cells c 3 fz) ∈ st ∧ ∀ j x : Nat, xs[j]? = some x → c[off + j]? = some (Value.int .i64 (x : Int)))
theorem UseIs.mono {st st' : List (Nat × Obj)} {v : Value} {xs : List Nat} (h : UseIs st v xs) (hs : ∀ x ∈ st, x ∈ st') : UseIs st' v xs := by
  obtain ⟨a, cap, e, hc, h⟩ := h
  refine ⟨a, cap, e, hc, h.imp id ?_⟩
  rintro ⟨b, off, c, fz, e1, e2, e3⟩
  exact ⟨b, off, c, fz, e1, hs _ e2, e3⟩
theorem UseIs.cell {st : List (Nat × Obj)} {v : Value} {xs : List Nat} (h : UseIs st v xs) {w : World} (hw : Sat st w) {j x : Nat} (hj : xs[j]? = some x) :
    ∃ b off cap, v = .slice (some ⟨b, off, none⟩) xs.length cap ∧ xs.length ≤ cap ∧ ∀ i y : Nat, xs[i]? = some y → w.cell? ⟨b, off + i, none⟩ = some (.int .i64 (y : Int)) := by
  obtain ⟨a, cap, e, hcap, h⟩ := h
  rcases h with rfl | ⟨b, off, c, fz, e1, e2, e3⟩
  · simp at hj
  · refine ⟨b, off, cap, by rw [e, e1], hcap, fun i y hi => ?_⟩
    have := hw _ e2
    simp only [World.cell?, this]
    exact e3 i y hi
theorem UseIs.form {st : List (Nat × Obj)} {v : Value} {xs : List Nat} (h : UseIs st v xs) : ∃ a cap, v = .slice a xs.length cap := by
  obtain ⟨a, cap, e, _, _⟩ := h
  exact ⟨a, cap, e⟩

/-- All of the classes. -/
structure Zs where
  pk : Nat
  ps : Nat
  nb : Nat
  tb : Nat
  ub : Nat
  mb : Nat
  jv : Value
  bv : Value
  av : Nat → Value
  uv : Nat → Value
  g : Uf.G
  t : List Uf.Rec
  bs : List Value
  st : List (Nat × Obj)
  us : Nat → List Nat
  kn : Tm → Option Nat
  ms : Nat

def Zs.Foot (z : Zs) (k : Nat) : Prop := k = z.pk ∨ Go.Proofs.YtlehlgipbhfioaaGreat.Foot z.ps z.nb z.jv k ∨ k = z.ub ∨ k = z.mb ∨ z.bv.ownBlock = some k

def clsC (z : Zs) (n : Nat) (j : Nat) : Value :=
  if j = 0 then .pointer (some ⟨z.ps, 0, none⟩) else if j = 1 then .slice (some ⟨z.tb, 0, none⟩) n n else if j = 2 then .slice (some ⟨z.ub, 0, none⟩) n n else if j = 3 then .map (some z.mb) else z.bv
def termC (l : List Tm) (av : Nat → Value) (j : Nat) : Value := if j % 2 = 0 then .string ((l[j / 2]?).map Tm.name |>.getD ⟨#[]⟩) else av (j / 2)

/-- The classes lie at block pk. -/
structure Cz (w : World) (base : Nat) (l : List Tm) (z : Zs) : Prop where
  cls : w.rowIs z.pk 71 5 (clsC z l.length)
  sets : St w base z.ps z.nb z.jv l.length z.g z.t
  terms : w.rowIs z.tb 102 (l.length * 2) (termC l z.av)
  uses : w.rowIs z.ub 110 l.length z.uv
  known : ∃ D, mapIs w 98 z.mb D ∧ Maps.size D ≤ z.ms ∧ ∀ s : Tm, Sk s → Says D (gkey s) (z.kn s)
  back : w.ownsRow base 1 1 z.bv z.bs.length z.bs
  sat : Sat z.st w
  far : ∀ x ∈ z.st, base ≤ x.1 ∧ ¬ z.Foot x.1
  argsAt : ∀ (i : Nat) (t : Tm), l[i]? = some t → UseIs z.st (z.av i) t.args
  usesAt : ∀ i, i < l.length → UseIs z.st (z.uv i) (z.us i)
  bd : Cc.Bd l
  oks : ∀ t ∈ l, t.ok
  len : l.length ≤ 150
  bp : base ≤ z.pk
  bt : base ≤ z.tb
  bu : base ≤ z.ub
  bm : base ≤ z.mb

theorem ownsRow_blockC {w w' : World} {base size n : Nat} {e : TypeId} {v : Value} {xs : List Value} (h : w.ownsRow base e size v n xs) (he : ∀ k, v.ownBlock = some k → w'.heap[k]? = w.heap[k]?) : w'.ownsRow base e size v n xs := by
  refine ⟨h.1, ?_⟩
  rcases h.2 with e | ⟨b, cap, cur, e, e1, e2, e3⟩
  · exact Or.inl e
  · exact Or.inr ⟨b, cap, cur, e, e1, (he b (by rw [e]; rfl)).trans e2, e3⟩
theorem mapIs_block {w w' : World} {k : TypeId} {b : Nat} {D : DataW Unit} (h : mapIs w k b D) (hn : w'.heap[b]? = w.heap[b]?) : mapIs w' k b D := by
  obtain ⟨es, ck, n1, n2, n3, n4⟩ := h
  exact ⟨es, ck, hn.trans n1, n2, n3, n4⟩

/-- All blocks that it lies in. -/
def Zs.All (z : Zs) (k : Nat) : Prop := z.Foot k ∨ k = z.tb ∨ ∃ o, (k, o) ∈ z.st

theorem Cz.foot_lt {w : World} {base : Nat} {l : List Tm} {z : Zs} (h : Cz w base l z) {k : Nat} (hk : z.Foot k) : k < w.heap.size := by
  obtain ⟨D, d1, _⟩ := h.known
  rcases hk with e | (e | e | e) | e | e | e
  · rw [e]; exact h.cls.lt
  · rw [e]; exact h.sets.lies.sets.lt
  · rw [e]; exact h.sets.lies.nodes.lt
  · exact (h.sets.lies.joins.lt k e).2
  · rw [e]; exact h.uses.lt
  · rw [e]; exact World.ownsMap.lt d1
  · exact (h.back.lt k e).2
theorem Cz.foot_ge {w : World} {base : Nat} {l : List Tm} {z : Zs} (h : Cz w base l z) {k : Nat} (hk : z.Foot k) : base ≤ k := by
  rcases hk with e | (e | e | e) | e | e | e
  · rw [e]; exact h.bp
  · rw [e]; exact h.sets.lies.bp
  · rw [e]; exact h.sets.lies.bn
  · exact (h.sets.lies.joins.lt k e).1
  · rw [e]; exact h.bu
  · rw [e]; exact h.bm
  · exact (h.back.lt k e).1
theorem Cz.all_lt {w : World} {base : Nat} {l : List Tm} {z : Zs} (h : Cz w base l z) {k : Nat} (hk : z.All k) : k < w.heap.size := by
  rcases hk with e | e | ⟨o, e⟩
  · exact h.foot_lt e
  · rw [e]; exact h.terms.lt
  · exact (Array.getElem?_eq_some_iff.1 (h.sat _ e)).1
theorem Cz.all_ge {w : World} {base : Nat} {l : List Tm} {z : Zs} (h : Cz w base l z) {k : Nat} (hk : z.All k) : base ≤ k := by
  rcases hk with e | e | ⟨o, e⟩
  · exact h.foot_ge e
  · rw [e]; exact h.bt
  · exact (h.far _ e).1

/-- Others' changes leave it alone. -/
theorem Cz.keep {w w' : World} {base : Nat} {l : List Tm} {z : Zs} (h : Cz w base l z) {S : Nat → Prop} (K : Kept S w w') (hS : ∀ k, z.All k → ¬ S k) : Cz w' base l z := by
  have B : ∀ k, z.All k → w'.heap[k]? = w.heap[k]? := fun k hk => K.block k (h.all_lt hk) (hS k hk)
  obtain ⟨D, d1, d2, d3⟩ := h.known
  refine ⟨h.cls.of_block (B _ (.inl (.inl rfl))), h.sets.other K (hS _ (.inl (.inr (.inl (.inl rfl))))) (hS _ (.inl (.inr (.inl (.inr (.inl rfl)))))) (fun k hk => hS k (.inl (.inr (.inl (.inr (.inr hk)))))), h.terms.of_block (B _ (.inr (.inl rfl))), h.uses.of_block (B _ (.inl (.inr (.inr (.inl rfl))))),
    ⟨D, mapIs_block d1 (B _ (.inl (.inr (.inr (.inr (.inl rfl)))))), d2, d3⟩, ownsRow_blockC h.back (fun k hk => B k (.inl (.inr (.inr (.inr (.inr hk)))))), fun x hx => (B x.1 (.inr (.inr ⟨x.2, hx⟩))).trans (h.sat x hx), h.far, h.argsAt, h.usesAt, h.bd, h.oks, h.len, h.bp, h.bt, h.bu, h.bm⟩
theorem Cz.kept0 {w w' : World} {base : Nat} {l : List Tm} {z : Zs} (h : Cz w base l z) (K : Kept0 w w') : Cz w' base l z := h.keep K (fun _ _ e => e)
theorem Cz.drewN {w : World} {base : Nat} {l : List Tm} {z : Zs} (h : Cz w base l z) (m : Nat) : Cz (w.drewN m) base l z := h.kept0 ((Kept.refl _ w).drewN m)
theorem Cz.drew {w : World} {base : Nat} {l : List Tm} {z : Zs} (h : Cz w base l z) : Cz w.drew base l z := h.kept0 (Kept.refl _ w).drew

theorem Cz.k0 {w : World} {base : Nat} {l : List Tm} {z : Zs} (h : Cz w base l z) : w.cell? ⟨z.pk, 0, none⟩ = some (.pointer (some ⟨z.ps, 0, none⟩)) := h.cls.cell (i := 0) (by omega)
theorem Cz.k1 {w : World} {base : Nat} {l : List Tm} {z : Zs} (h : Cz w base l z) : w.cell? ⟨z.pk, 1, none⟩ = some (.slice (some ⟨z.tb, 0, none⟩) l.length l.length) := h.cls.cell (i := 1) (by omega)
theorem Cz.k2 {w : World} {base : Nat} {l : List Tm} {z : Zs} (h : Cz w base l z) : w.cell? ⟨z.pk, 2, none⟩ = some (.slice (some ⟨z.ub, 0, none⟩) l.length l.length) := h.cls.cell (i := 2) (by omega)
theorem Cz.k3 {w : World} {base : Nat} {l : List Tm} {z : Zs} (h : Cz w base l z) : w.cell? ⟨z.pk, 3, none⟩ = some (.map (some z.mb)) := h.cls.cell (i := 3) (by omega)
theorem Cz.k4 {w : World} {base : Nat} {l : List Tm} {z : Zs} (h : Cz w base l z) : w.cell? ⟨z.pk, 4, none⟩ = some z.bv := h.cls.cell (i := 4) (by omega)
theorem Cz.t0 {w : World} {base : Nat} {l : List Tm} {z : Zs} (h : Cz w base l z) {n : Nat} {t : Tm} (ht : l[n]? = some t) : w.cell? ⟨z.tb, n * 2, none⟩ = some (.string t.name) := by
  have hn := (List.getElem?_eq_some_iff.1 ht).1
  rw [h.terms.cell (i := n * 2) (by omega)]
  simp [termC, ht]
theorem Cz.t1 {w : World} {base : Nat} {l : List Tm} {z : Zs} (h : Cz w base l z) {n : Nat} {t : Tm} (ht : l[n]? = some t) : w.cell? ⟨z.tb, n * 2 + 1, none⟩ = some (z.av n) := by
  have hn := (List.getElem?_eq_some_iff.1 ht).1
  rw [h.terms.cell (i := n * 2 + 1) (by omega)]
  have h1 : (n * 2 + 1) % 2 = 1 := by omega
  have h2 : (n * 2 + 1) / 2 = n := by omega
  simp [termC, h1, h2]
theorem Cz.u {w : World} {base : Nat} {l : List Tm} {z : Zs} (h : Cz w base l z) {n : Nat} (hn : n < l.length) : w.cell? ⟨z.ub, n, none⟩ = some (z.uv n) := h.uses.cell (by omega)
theorem Cz.ok {w : World} {base : Nat} {l : List Tm} {z : Zs} (h : Cz w base l z) : Uf.Ok l.length z.g z.t.length := h.sets.ok

/-- The least term of a class. -/
theorem Cz.least {w : World} {base : Nat} {l : List Tm} {z : Zs} (h : Cz w base l z) {a : Nat} (ha : a < l.length) :
    Calls Tryz.prog 38 #[.pointer (some ⟨z.ps, 0, none⟩), .int .i64 (a : Int)] w fun e w' => e = .returned (.int .i64 (z.g.lo a : Int)) ∧ ∃ m, w' = w.drewN m := by
  have := Least_in w base z.ps z.nb l.length z.g z.jv _ h.sets.lies _ h.ok a
  rw [inB_nat ha, if_pos rfl, Int.toNat_natCast] at this
  exact this

end Go.Proofs.YtlehlgipbhfioaaGreat

namespace Go.Proofs.YtlehlgipbhfioaaGreat
open Go.RowKit Go.Maps

theorem Kept.setNew {S : Nat → Prop} {w W : World} (h : Kept S w W) {b off : Nat} (hb : w.heap.size ≤ b) (u : Value) : Kept S w (W.setCell ⟨b, off, none⟩ u) :=
  ⟨h.os, h.tape, h.output, by simpa [World.setCell] using h.size, fun k hk hs => (Below.heap_setCell _ _ _ _ (fun e => by have : k = b := e; omega)).trans (h.block k hk hs)⟩

/-- A signature that is filled in as far as k. -/
def sgF (s : Tm) (k : Nat) (j : Nat) : Value := if j = 0 then .string s.name else if j ≤ k then .int .i64 (s.arg (j - 1) : Int) else .int .i64 0

theorem sgF_step {lo : Nat → Nat} {t : Tm} {k a : Nat} (h4 : t.args.length ≤ 4) (hk : t.args[k]? = some a) : ∀ j, j < 5 → (if j = 1 + k then Value.int .i64 (lo a : Int) else sgF (Cc.sg lo t) k j) = sgF (Cc.sg lo t) (k + 1) j := by
  intro j hj
  have hkl := (List.getElem?_eq_some_iff.1 hk).1
  have ha : (Cc.sg lo t).arg k = lo a := by rw [Cc.sg_arg _ _ _ (by omega), Cc.ar_some hk]
  unfold sgF
  by_cases e : j = 1 + k
  · subst e
    rw [if_pos rfl, if_neg (by omega), if_pos (by omega), show 1 + k - 1 = k by omega, ha]
  · rw [if_neg e]
    by_cases e0 : j = 0
    · rw [if_pos e0, if_pos e0]
    · rw [if_neg e0, if_neg e0]
      by_cases e1 : j ≤ k
      · rw [if_pos e1, if_pos (by omega)]
      · rw [if_neg e1, if_neg (by omega)]


theorem sgF_all {lo : Nat → Nat} {t : Tm} {j : Nat} (h4 : t.args.length ≤ 4) (hj : j < 5) : (sigL (Cc.sg lo t)).toArray[j]?.getD undef = sgF (Cc.sg lo t) t.args.length j := by
  have hz : ∀ k, t.args.length ≤ k → k < 4 → (Cc.sg lo t).arg k = 0 := fun k h1 h2 => by
    rw [Cc.sg_arg _ _ _ h2]
    unfold Cc.ar
    rw [List.getElem?_eq_none h1]
  unfold sgF
  rcases (by omega : j = 0 ∨ j = 1 ∨ j = 2 ∨ j = 3 ∨ j = 4) with rfl | rfl | rfl | rfl | rfl
  · rfl
  · by_cases e : 1 ≤ t.args.length
    · simp [sigL, e]
    · simp [sigL, e, hz 0 (by omega)]
  · by_cases e : 2 ≤ t.args.length
    · simp [sigL, e]
    · simp [sigL, e, hz 1 (by omega)]
  · by_cases e : 3 ≤ t.args.length
    · simp [sigL, e]
    · simp [sigL, e, hz 2 (by omega)]
  · by_cases e : 4 ≤ t.args.length
    · simp [sigL, e]
    · simp [sigL, e, hz 3 (by omega)]

set_option maxHeartbeats 1000000 in
set_option maxRecDepth 100000 in
theorem sig_in (w : World) (base : Nat) (l : List Tm) (z : Zs) (h : Cz w base l z) (n : Nat) (t : Tm) (ht : l[n]? = some t) :
    Calls Tryz.prog 34 #[.pointer (some ⟨z.pk, 0, none⟩), .int .i64 (n : Int)] w fun e w' => e = .returned (sigV (Cc.sg z.g.lo t)) ∧ Kept0 w w' := by
  have hn : n < l.length := (List.getElem?_eq_some_iff.1 ht).1
  have hlen := h.len
  have hok := h.oks t (List.mem_of_getElem? ht)
  have h4 := hok.args
  have hargs := h.argsAt n t ht
  have hV : sigV (Cc.sg z.g.lo t) = .agg #[.string (Cc.sg z.g.lo t).name, .int .i64 ((Cc.sg z.g.lo t).arg 0 : Int), .int .i64 ((Cc.sg z.g.lo t).arg 1 : Int), .int .i64 ((Cc.sg z.g.lo t).arg 2 : Int), .int .i64 ((Cc.sg z.g.lo t).arg 3 : Int)] := rfl
  rw [hV]
  clear hV
  have K1 : Kept0 w (w.alloc (.cells #[.string ⟨#[]⟩, .int .i64 0, .int .i64 0, .int .i64 0, .int .i64 0] 98)) := Kept.alloc (Kept.refl _ w) _
  have R1 := made_row w #[.string ⟨#[]⟩, .int .i64 0, .int .i64 0, .int .i64 0, .int .i64 0] 98
  have k1 := (h.kept0 K1).k1
  have t0 := (h.kept0 K1).t0 ht
  have t1 := (h.kept0 K1).t1 ht
  obtain ⟨aa, ac, hav⟩ := hargs.form
  rw [hav] at t1 hargs
  go_enter Tryz.func34, Tryz.ntmps34
  go_wp2_with fail
  have F0 : ∀ W : World, (W.alloc (.cells #[.string t.name, .int .i64 0, .int .i64 0, .int .i64 0, .int .i64 0] 98)).rowIs W.heap.size 98 5 (sgF (Cc.sg z.g.lo t) 0) := fun W => (made_row W #[.string t.name, .int .i64 0, .int .i64 0, .int .i64 0, .int .i64 0] 98).congr (fun j hj => by
    have hj' : j < 5 := hj
    rcases (by omega : j = 0 ∨ j = 1 ∨ j = 2 ∨ j = 3 ∨ j = 4) with rfl | rfl | rfl | rfl | rfl <;> rfl)
  have F1 := F0 ((w.alloc (.cells #[.string ⟨#[]⟩, .int .i64 0, .int .i64 0, .int .i64 0, .int .i64 0] 98)).alloc (.cells #[.string t.name, .slice aa t.args.length ac] 102))
  have hsz : ((w.alloc (.cells #[.string ⟨#[]⟩, .int .i64 0, .int .i64 0, .int .i64 0, .int .i64 0] 98)).alloc (.cells #[.string t.name, .slice aa t.args.length ac] 102)).heap.size = w.heap.size + 1 + 1 := by simp
  rw [hsz] at F1
  have K3 := (K1.alloc (.cells #[.string t.name, .slice aa t.args.length ac] 102)).alloc (.cells #[.string t.name, .int .i64 0, .int .i64 0, .int .i64 0, .int .i64 0] 98)
  have R3 := World.rowIs.alloc (World.rowIs.alloc R1 (.cells #[.string t.name, .slice aa t.args.length ac] 102)) (.cells #[.string t.name, .int .i64 0, .int .i64 0, .int .i64 0, .int .i64 0] 98)
  generalize ((w.alloc (.cells #[.string ⟨#[]⟩, .int .i64 0, .int .i64 0, .int .i64 0, .int .i64 0] 98)).alloc (.cells #[.string t.name, .slice aa t.args.length ac] 102)).alloc (.cells #[.string t.name, .int .i64 0, .int .i64 0, .int .i64 0, .int .i64 0] 98) = w3 at F1 K3 R3 ⊢
  clear F0 hsz K1 R1 k1 t0 t1
  have hb6 : w.heap.size < w.heap.size + 1 + 1 := by omega
  generalize w.heap.size + 1 + 1 = b6 at F1 hb6 ⊢
  go_loopw [22] (fun t22 W => ∃ k : Nat, k ≤ t.args.length ∧ t22 = .int .i64 (k : Int) ∧ W.rowIs b6 98 5 (sgF (Cc.sg z.g.lo t) k) ∧ (∃ f, W.rowIs w.heap.size 98 5 f) ∧ Kept0 w W) (fun t22 _ => t.args.length - (intOf t22).toNat)
  case atStart => exact ⟨0, by omega, rfl, F1, ⟨_, R3⟩, K3⟩
  case round =>
    clear F1 R3 K3
    obtain ⟨k, hk, rfl, F, ⟨f4, R4⟩, K⟩ := hrel
    have H := h.kept0 K
    have k0 := H.k0
    by_cases hk2 : k < t.args.length
    · have dk : decide ((k : Int) < (t.args.length : Int)) = true := decide_eq_true (by omega)
      have hka : t.args[k]? = some t.args[k] := List.getElem?_eq_getElem hk2
      obtain ⟨b, off, cap, hv, _, hc⟩ := hargs.cell H.sat hka
      injection hv with e1 e2 e3
      subst e1 e3
      have ck := hc k _ hka
      have hlt := h.bd.args n t ht _ (List.getElem_mem hk2)
      have LE := fun m => (H.drewN m).least hlt
      have hka4 := h.bd.four t (List.mem_of_getElem? ht)
      have x1 : wr.cell? ⟨b6, 1 + k, none⟩ = some (.int .i64 0) := by
        rw [F.cell (i := 1 + k) (by omega)]
        simp [sgF]
        omega
      have x2 := F.frozen (1 + k)
      clear hc
      go_wp2_with (go_at_call 38; refine (LE 0).mono ?_; rintro e w9 ⟨rfl, m9, rfl⟩)
      refine ⟨⟨k + 1, by omega, by simp, ?_, ⟨_, World.rowIs.setOther (World.rowIs.of_block R4 rfl) (show w.heap.size ≠ b6 by omega) _⟩, Kept.setNew (K.drewN _) (by omega) _⟩, by simp [intOf]; omega⟩
      exact World.rowIs.congr (World.rowIs.set (World.rowIs.of_block F rfl : (wr.drewN m9).rowIs b6 98 5 _) (1 + k) _) (sgF_step hka4 hka)
    · have dk : decide ((k : Int) < (t.args.length : Int)) = false := decide_eq_false (by omega)
      obtain rfl : k = t.args.length := by omega
      have FA : wr.rowIs b6 98 5 (fun j => (sigL (Cc.sg z.g.lo t)).toArray[j]?.getD undef) := F.congr (fun j hj => (sgF_all h4 hj).symm)
      have x0 : wr.cell? ⟨b6, 0, none⟩ = some (.string (Cc.sg z.g.lo t).name) := FA.cell (i := 0) (by omega)
      have x1 : wr.cell? ⟨b6, 1, none⟩ = some (.int .i64 ((Cc.sg z.g.lo t).arg 0 : Int)) := FA.cell (i := 1) (by omega)
      have x2 : wr.cell? ⟨b6, 2, none⟩ = some (.int .i64 ((Cc.sg z.g.lo t).arg 1 : Int)) := FA.cell (i := 2) (by omega)
      have x3 : wr.cell? ⟨b6, 3, none⟩ = some (.int .i64 ((Cc.sg z.g.lo t).arg 2 : Int)) := FA.cell (i := 3) (by omega)
      have x4 : wr.cell? ⟨b6, 4, none⟩ = some (.int .i64 ((Cc.sg z.g.lo t).arg 3 : Int)) := FA.cell (i := 4) (by omega)
      have y0 := R4.cell (i := 0) (by omega)
      have y1 := R4.cell (i := 1) (by omega)
      have y2 := R4.cell (i := 2) (by omega)
      have y3 := R4.cell (i := 3) (by omega)
      have y4 := R4.cell (i := 4) (by omega)
      have v0 := R4.frozen 0
      have v1 := R4.frozen 1
      have v2 := R4.frozen 2
      have v3 := R4.frozen 3
      have v4 := R4.frozen 4
      have hbne : ¬ w.heap.size = b6 := by omega
      go_wp2_with fail
      generalize Cc.sg z.g.lo t = s at *
      have K5 := Kept.setNew (off := 4) (Kept.setNew (off := 3) (Kept.setNew (off := 2) (Kept.setNew (off := 1) (Kept.setNew (off := 0) K (Nat.le_refl _) (.string s.name)) (Nat.le_refl _) (.int .i64 (s.arg 0 : Int))) (Nat.le_refl _) (.int .i64 (s.arg 1 : Int))) (Nat.le_refl _) (.int .i64 (s.arg 2 : Int))) (Nat.le_refl _) (.int .i64 (s.arg 3 : Int))
      have R5 := ((((R4.set 0 (.string s.name)).set 1 (.int .i64 (s.arg 0 : Int))).set 2 (.int .i64 (s.arg 1 : Int))).set 3 (.int .i64 (s.arg 2 : Int))).set 4 (.int .i64 (s.arg 3 : Int))
      generalize ((((wr.setCell ⟨w.heap.size, 0, none⟩ (.string s.name)).setCell ⟨w.heap.size, 1, none⟩ (.int .i64 (s.arg 0 : Int))).setCell ⟨w.heap.size, 2, none⟩ (.int .i64 (s.arg 1 : Int))).setCell ⟨w.heap.size, 3, none⟩ (.int .i64 (s.arg 2 : Int))).setCell ⟨w.heap.size, 4, none⟩ (.int .i64 (s.arg 3 : Int)) = w5 at K5 R5 ⊢
      have z0 : w5.cell? ⟨w.heap.size, 0, none⟩ = some (.string s.name) := R5.cell (i := 0) (by omega)
      have z1 : w5.cell? ⟨w.heap.size, 1, none⟩ = some (.int .i64 (s.arg 0 : Int)) := R5.cell (i := 1) (by omega)
      have z2 : w5.cell? ⟨w.heap.size, 2, none⟩ = some (.int .i64 (s.arg 1 : Int)) := R5.cell (i := 2) (by omega)
      have z3 : w5.cell? ⟨w.heap.size, 3, none⟩ = some (.int .i64 (s.arg 2 : Int)) := R5.cell (i := 3) (by omega)
      have z4 : w5.cell? ⟨w.heap.size, 4, none⟩ = some (.int .i64 (s.arg 3 : Int)) := R5.cell (i := 4) (by omega)
      refine ⟨rfl, .agg #[.string s.name, .int .i64 (s.arg 0 : Int), .int .i64 (s.arg 1 : Int), .int .i64 (s.arg 2 : Int), .int .i64 (s.arg 3 : Int)], by simp [results, Tryz.results34, go_sem, z0, z1, z2, z3, z4], rfl, K5⟩

end Go.Proofs.YtlehlgipbhfioaaGreat

namespace Go.Proofs.YtlehlgipbhfioaaGreat
open Go.RowKit Go.Maps

theorem rowIs_neC {w : World} {b b' : Nat} {t t' : TypeId} {n n' : Nat} {f f' : Nat → Value} (h : w.rowIs b t n f) (h' : w.rowIs b' t' n' f') (ht : t ≠ t') : b ≠ b' := by
  rintro rfl
  obtain ⟨c, hc, _⟩ := h
  obtain ⟨c', hc', _⟩ := h'
  rw [hc] at hc'
  injection hc' with hc'
  injection hc' with _ e
  exact ht e
theorem rowIs_map {w : World} {b b' : Nat} {t k : TypeId} {n : Nat} {f : Nat → Value} {D : DataW Unit} (h : w.rowIs b t n f) (h' : mapIs w k b' D) : b ≠ b' := by
  rintro rfl
  obtain ⟨c, hc, _⟩ := h
  obtain ⟨es, ck, n1, _⟩ := h'
  rw [hc] at n1
  cases n1
theorem ownsRow_neC {w : World} {B B' s s' n n' : Nat} {e e' : TypeId} {v v' : Value} {xs xs' : List Value} (h : w.ownsRow B e s v n xs) (h' : w.ownsRow B' e' s' v' n' xs') (he : e ≠ e') {k : Nat} (hk : v.ownBlock = some k) : v'.ownBlock ≠ some k := by
  intro hk'
  rcases h.2 with ⟨r, _⟩ | ⟨b, cap, cur, r, _, hb, _⟩
  · rw [r] at hk; simp [Value.ownBlock] at hk
  · rcases h'.2 with ⟨r', _⟩ | ⟨b', cap', cur', r', _, hb', _⟩
    · rw [r'] at hk'; simp [Value.ownBlock] at hk'
    · rw [r] at hk
      rw [r'] at hk'
      simp [Value.ownBlock] at hk hk'
      subst hk
      subst hk'
      rw [hb] at hb'
      injection hb' with hb'
      injection hb' with _ e
      exact he e

/-- No two of its parts share a block. -/
structure ApartZ (z : Zs) : Prop where
  kp : z.pk ≠ z.ps
  kn : z.pk ≠ z.nb
  kj : z.jv.ownBlock ≠ some z.pk
  kt : z.pk ≠ z.tb
  ku : z.pk ≠ z.ub
  km : z.pk ≠ z.mb
  kb : z.bv.ownBlock ≠ some z.pk
  pt : z.ps ≠ z.tb
  nt : z.nb ≠ z.tb
  jt : z.jv.ownBlock ≠ some z.tb
  ut : z.ub ≠ z.tb
  mt : z.mb ≠ z.tb
  bt : z.bv.ownBlock ≠ some z.tb
  pu : z.ps ≠ z.ub
  nu : z.nb ≠ z.ub
  ju : z.jv.ownBlock ≠ some z.ub
  pm : z.ps ≠ z.mb
  nm : z.nb ≠ z.mb
  jm : z.jv.ownBlock ≠ some z.mb
  pb : z.bv.ownBlock ≠ some z.ps
  nb : z.bv.ownBlock ≠ some z.nb
  jb : ∀ k, z.jv.ownBlock = some k → z.bv.ownBlock ≠ some k
  um : z.ub ≠ z.mb
  ub : z.bv.ownBlock ≠ some z.ub
  mb : z.bv.ownBlock ≠ some z.mb

theorem Cz.apart {w : World} {base : Nat} {l : List Tm} {z : Zs} (h : Cz w base l z) : ApartZ z := by
  obtain ⟨D, d1, _⟩ := h.known
  have L := h.sets.lies
  exact ⟨rowIs_neC h.cls L.sets (by decide), rowIs_neC h.cls L.nodes (by decide), rowIs_type h.cls (by decide) L.joins, rowIs_neC h.cls h.terms (by decide), rowIs_neC h.cls h.uses (by decide), rowIs_map h.cls d1, rowIs_type h.cls (by decide) h.back,
    rowIs_neC L.sets h.terms (by decide), rowIs_neC L.nodes h.terms (by decide), rowIs_type h.terms (by decide) L.joins, rowIs_neC h.uses h.terms (by decide), (rowIs_map h.terms d1).symm, rowIs_type h.terms (by decide) h.back,
    rowIs_neC L.sets h.uses (by decide), rowIs_neC L.nodes h.uses (by decide), rowIs_type h.uses (by decide) L.joins, rowIs_map L.sets d1, rowIs_map L.nodes d1, mapIs_type d1 L.joins, rowIs_type L.sets (by decide) h.back, rowIs_type L.nodes (by decide) h.back,
    fun k hk => ownsRow_neC L.joins h.back (by decide) hk, rowIs_map h.uses d1, rowIs_type h.uses (by decide) h.back, mapIs_type d1 h.back⟩

theorem Cz.st_lt {w : World} {base : Nat} {l : List Tm} {z : Zs} (h : Cz w base l z) {x : Nat × Obj} (hx : x ∈ z.st) : x.1 < w.heap.size := (Array.getElem?_eq_some_iff.1 (h.sat x hx)).1

/-- How the parts come to change. -/
structure Grows (w : World) (z z' : Zs) : Prop where
  pk : z'.pk = z.pk
  foot : ∀ k, z'.Foot k → z.Foot k ∨ w.heap.size ≤ k
  tb : z'.tb = z.tb
  st : ∀ x ∈ z'.st, x ∈ z.st ∨ w.heap.size ≤ x.1
theorem Grows.refl (w : World) (z : Zs) : Grows w z z := ⟨rfl, fun _ h => .inl h, rfl, fun _ h => .inl h⟩
theorem Grows.trans {w w' : World} {a b c : Zs} (h : Grows w a b) (k : Grows w' b c) (hs : w.heap.size ≤ w'.heap.size) : Grows w a c :=
  ⟨k.pk.trans h.pk, fun i hi => (k.foot i hi).elim (h.foot i) (fun x => .inr (Nat.le_trans hs x)), k.tb.trans h.tb, fun x hx => (k.st x hx).elim (h.st x) (fun x => .inr (Nat.le_trans hs x))⟩
theorem Grows.all {w : World} {z z' : Zs} (h : Grows w z z') {k : Nat} (hk : z'.All k) : z.All k ∨ w.heap.size ≤ k := by
  rcases hk with e | e | ⟨o, e⟩
  · exact (h.foot k e).imp .inl id
  · exact .inl (.inr (.inl (e.trans h.tb)))
  · exact (h.st _ e).imp (fun x => .inr (.inr ⟨o, x⟩)) id

/-- One more block that never changes. -/
theorem Cz.addStat {w : World} {base : Nat} {l : List Tm} {z : Zs} (h : Cz w base l z) (x : Nat × Obj) (hx : w.heap[x.1]? = some x.2) (hb : base ≤ x.1) (hf : ¬ z.Foot x.1) : Cz w base l { z with st := z.st ++ [x] } := by
  refine ⟨h.cls, h.sets, h.terms, h.uses, h.known, h.back, ?_, ?_, fun i t ht => (h.argsAt i t ht).mono (fun y hy => List.mem_append_left _ hy), fun i hi => (h.usesAt i hi).mono (fun y hy => List.mem_append_left _ hy), h.bd, h.oks, h.len, h.bp, h.bt, h.bu, h.bm⟩
  · intro y hy
    rcases List.mem_append.1 hy with hy | hy
    · exact h.sat y hy
    · simp at hy; subst hy; exact hx
  · intro y hy
    rcases List.mem_append.1 hy with hy | hy
    · exact h.far y hy
    · simp at hy; subst hy; exact ⟨hb, hf⟩

/-- A signature becomes known. -/
theorem Cz.store {w : World} {base : Nat} {l : List Tm} {z : Zs} (h : Cz w base l z) {s : Tm} (hs : Sk s) {n : Nat} (hn : n < 100000) (hms : z.ms < 1000000) :
    ∃ w', (Instr.mapUpdate 68 (.map (some z.mb)) (sigV s) (.int .i64 (n : Int))).run Tryz.prog w = .ok () w' ∧ Cz w' base l { z with kn := fun u => if u = s then some n else z.kn u, ms := z.ms + 1 } ∧ Kept1 z.mb w w' := by
  obtain ⟨D, d1, d2, d3⟩ := h.known
  obtain ⟨w', hr, ho, hturn⟩ := World.ownsMap.store d1 gLaw Tryz.underlying68 (by unfold maxLen; omega) (gkey_of hs.ok) (plainElem_int Tryz.underlying3 (wf64 hn))
  have K : Kept1 z.mb w w' := Kept1.of_grown hturn.grown
  have A := h.apart
  have tidy := World.ownsMap.tidy d1 gLaw
  refine ⟨w', hr, ⟨h.cls.of_block (K.block _ h.cls.lt A.km), h.sets.other K A.pm A.nm (fun k hk e => A.jm (by rw [hk, e])), h.terms.of_block (K.block _ h.terms.lt A.mt.symm), h.uses.of_block (K.block _ h.uses.lt A.um), ⟨_, mapIs_of ho, ?_, ?_⟩,
    ownsRow_blockC h.back (fun k hk => K.block k (h.back.lt k hk).2 (fun e => A.mb (by rw [hk, e]))), fun x hx => (K.block x.1 (h.st_lt hx) (fun e => (h.far x hx).2 (.inr (.inr (.inr (.inl e)))))).trans (h.sat x hx), h.far, h.argsAt, h.usesAt, h.bd, h.oks, h.len, h.bp, h.bt, h.bu, h.bm⟩, K⟩
  · rw [size_put tidy]
    show _ ≤ z.ms + 1
    split <;> omega
  · intro u hu
    show Says _ (gkey u) (if u = s then some n else z.kn u)
    by_cases e : u = s
    · subst e
      rw [if_pos rfl]
      obtain ⟨kk, e, hk⟩ := gkey_lit hu.ok
      rw [e]
      exact Says.put_same tidy.isMap hk n
    · rw [if_neg e]
      exact (d3 u hu).put_other (fun x => e (gkey_inj hu hs x)) _

theorem Cz.look {w : World} {base : Nat} {l : List Tm} {z : Zs} (h : Cz w base l z) {s : Tm} (hs : Sk s) :
    (Instr.lookup 68 (.map (some z.mb)) (sigV s) true).run Tryz.prog w = .ok (.tuple #[.int .i64 (((z.kn s).getD 0 : Nat) : Int), .bool (z.kn s).isSome]) w := by
  obtain ⟨D, d1, d2, d3⟩ := h.known
  exact (d3 s hs).look d1 gLaw Tryz.underlying68 (gkey_of hs.ok)

/-- A step is kept. -/
theorem Cz.push {w wa w1 : World} {base : Nat} {l : List Tm} {z : Zs} (h : Cz w base l z) (K0 : Kept0 w wa) (f v' : Value) (hown : w1.ownsRow base 1 1 v' (z.bs.length + 1) (z.bs ++ [f])) (hgrow : wa.grownBy w1 z.bv.ownBlock)
    (hloc : v'.ownBlock = z.bv.ownBlock ∨ ∀ k, v'.ownBlock = some k → wa.heap.size ≤ k) :
    Cz (w1.setCell ⟨z.pk, 4, none⟩ v') base l { z with bv := v', bs := z.bs ++ [f] } ∧ Kept z.Foot w (w1.setCell ⟨z.pk, 4, none⟩ v') ∧ Grows w z { z with bv := v', bs := z.bs ++ [f] } ∧ w1.cell? ⟨z.pk, 4, none⟩ = some z.bv ∧ w1.frozen? ⟨z.pk, 4, none⟩ = false ∧ Kept (fun k => z.bv.ownBlock = some k) w w1 := by
  have K1 : Kept (fun k => z.bv.ownBlock = some k) w w1 := Kept.grown (Kept.mono K0 (fun _ _ e => e.elim)) hgrow (fun _ e => e)
  have K2 : Kept (fun k => k = z.pk ∨ z.bv.ownBlock = some k) w (w1.setCell ⟨z.pk, 4, none⟩ v') := Kept.setCell (p := ⟨z.pk, 4, none⟩) (Kept.mono K1 (fun _ _ e => .inr e)) (.inl rfl) _
  have A := h.apart
  have hp : w1.rowIs z.pk 71 5 (clsC z l.length) := h.cls.of_block (K1.block _ h.cls.lt A.kb)
  have np := rowIs_type hp (by decide) hown
  obtain ⟨D, d1, d2, d3⟩ := h.known
  have hfoot : ∀ k, Zs.Foot { z with bv := v', bs := z.bs ++ [f] } k → z.Foot k ∨ w.heap.size ≤ k := by
    rintro k (e | e | e | e | e)
    · exact .inl (.inl e)
    · exact .inl (.inr (.inl e))
    · exact .inl (.inr (.inr (.inl e)))
    · exact .inl (.inr (.inr (.inr (.inl e))))
    · rcases hloc with e2 | e2
      · exact .inl (.inr (.inr (.inr (.inr (e2 ▸ e)))))
      · exact .inr (Nat.le_trans K0.size (e2 k e))
  refine ⟨⟨(hp.set 4 v').congr ?_, h.sets.other K2 ?_ ?_ ?_, h.terms.of_block (K2.block _ h.terms.lt ?_), h.uses.of_block (K2.block _ h.uses.lt ?_), ⟨D, mapIs_block d1 (K2.block _ (World.ownsMap.lt d1) ?_), d2, d3⟩, ?_, ?_, ?_, h.argsAt, h.usesAt, h.bd, h.oks, h.len, h.bp, h.bt, h.bu, h.bm⟩, ?_, ⟨rfl, hfoot, rfl, fun _ hx => .inl hx⟩, hp.cell (i := 4) (by omega), hp.frozen 4, K1⟩
  · intro i hi
    rcases (by omega : i = 0 ∨ i = 1 ∨ i = 2 ∨ i = 3 ∨ i = 4) with rfl | rfl | rfl | rfl | rfl <;> simp [clsC]
  · rintro (e | e)
    · exact A.kp e.symm
    · exact A.pb e
  · rintro (e | e)
    · exact A.kn e.symm
    · exact A.nb e
  · rintro k hk (e | e)
    · exact A.kj (by rw [hk, e])
    · exact A.jb k hk e
  · rintro (e | e)
    · exact A.kt e.symm
    · exact A.bt e
  · rintro (e | e)
    · exact A.ku e.symm
    · exact A.ub e
  · rintro (e | e)
    · exact A.km e.symm
    · exact A.mb e
  · simpa using ownsRow_setCell_other hown np _
  · intro x hx
    refine (K2.block x.1 (h.st_lt hx) ?_).trans (h.sat x hx)
    rintro (e | e)
    · exact (h.far x hx).2 (.inl e)
    · exact (h.far x hx).2 (.inr (.inr (.inr (.inr e))))
  · intro x hx
    refine ⟨(h.far x hx).1, fun hk => ?_⟩
    rcases hfoot _ hk with e | e
    · exact (h.far x hx).2 e
    · have := h.st_lt hx; omega
  · refine Kept.mono K2 ?_
    rintro k _ (e | e)
    · exact .inl e
    · exact .inr (.inr (.inr (.inr e)))

theorem row_form' {w : World} {base : Nat} {e : TypeId} {size : Nat} {v : Value} {n : Nat} {xs : List Value} (h : w.ownsRow base e size v n xs) : ∃ a c, v = .slice a n c := by
  rcases h.2 with ⟨rfl, h0⟩ | ⟨b, cap, cur, rfl, _⟩
  · rw [h0]; exact ⟨none, 0, rfl⟩
  · exact ⟨_, cap, rfl⟩
theorem rowIs_obj {w : World} {b : Nat} {t : TypeId} {n : Nat} {f : Nat → Value} (h : w.rowIs b t n f) (C : Array Value) (hs : C.size = n) (hC : ∀ i, i < n → C[i]? = some (f i)) : w.heap[b]? = some (.cells C t) := by
  obtain ⟨c, h1, h2, h3⟩ := h
  have : c = C := by
    apply Array.ext_getElem?
    intro i
    by_cases hi : i < n
    · rw [h3 i hi, hC i hi]
    · rw [Array.getElem?_eq_none (by omega), Array.getElem?_eq_none (by omega)]
  rw [h1, this]
theorem one_newD (w : World) (m : Nat) (x : Value) (t : TypeId) : ∀ j u, [x][j]? = some u → ((w.drewN m).alloc (.cells #[x] t)).cell? ((⟨w.heap.size, 0, none⟩ : Addr).add j) = some u := by
  intro j u hj
  have e : ∀ k, ((w.drewN m).alloc (.cells #[x] t)).cell? ⟨w.heap.size, k, none⟩ = #[x][k]? := fun k => World.cell?_alloc_at (w := w.drewN m) _ t _ k rfl
  match j, hj with
  | 0, hj => simp at hj; subst hj; rw [show (⟨w.heap.size, 0, none⟩ : Addr).add 0 = ⟨w.heap.size, 0, none⟩ from by simp [Addr.add], e]; rfl
  | j + 1, hj => simp at hj

theorem infoStepC : (Tryz.prog.info? 1).map (fun i => (i.zero, i.size, i.bytes)) = some (some .nilFunc, 1, 8) := by kernel_rfl

end Go.Proofs.YtlehlgipbhfioaaGreat

namespace Go.Proofs.YtlehlgipbhfioaaGreat
open Go.RowKit Go.Maps

theorem dgRow : (288 : TypeId) < Tryz.prog.types.size := of_decide_eq_true (by kernel_rfl)
theorem dgCells : Tryz.prog.cellsOf 288 = 5 := by kernel_rfl
theorem dgKeyType : Tryz.prog.keyType 288 = true := by kernel_rfl
theorem dgKeyAt : Tryz.prog.keyTypeAt 3 288 = true := by kernel_rfl
theorem dgLaw : Keyed Tryz.prog 288 := Keyed.of_law (deep_law_laid tLaid (m := 3) (by omega) dgRow dgKeyAt (by rw [Tryz.underlying288]))
theorem dsig_formed (t : Tm) : (sigV t).formed Tryz.prog 288 = true := by simp [sigV, sigL, Value.formed, Tryz.underlying288, dgCells]
theorem dsig_key (t : Tm) (h : t.ok) : ∃ kl, keyOf Tryz.prog 288 (sigV t) = some kl := by
  have h0 : t.name.size ≤ maxLen := Nat.le_trans h.name (by decide)
  have g0 : (Lit.int .i64 (t.arg 0 : Int)).wf = true := wf64 (by have := h.arg 0; omega)
  have g1 : (Lit.int .i64 (t.arg 1 : Int)).wf = true := wf64 (by have := h.arg 1; omega)
  have g2 : (Lit.int .i64 (t.arg 2 : Int)).wf = true := wf64 (by have := h.arg 2; omega)
  have g3 : (Lit.int .i64 (t.arg 3 : Int)).wf = true := wf64 (by have := h.arg 3; omega)
  unfold keyOf
  rw [Tryz.underlying288]
  simp only [dgKeyType, dsig_formed]
  obtain ⟨m, hm⟩ : ∃ m, Tryz.prog.types.size + 1 = m + 3 := ⟨Tryz.prog.types.size - 2, by have h9 := dgRow; generalize Tryz.prog.types.size = z at h9 ⊢; exact (by have h8 : 3 ≤ z := Nat.le_trans (by decide) (Nat.le_of_lt h9); omega)⟩
  rw [hm]
  have hr : List.range 4 = [0, 1, 2, 3] := rfl
  simp [Program.keyLits, Tryz.underlying288, Tryz.underlying96, Tryz.underlying3, Tryz.underlying9, dgCells, tCells4, tCellsI, tCellsS, sigV, sigL, Value.cells, hr, h0, g0, g1, g2, g3]
noncomputable def dkey (t : Tm) : Lit := (keyOf Tryz.prog 288 (sigV t)).getD (.bool false)
theorem dkey_of {t : Tm} (h : t.ok) : keyOf Tryz.prog 288 (sigV t) = some (dkey t) := by
  obtain ⟨kl, hk⟩ := dsig_key t h
  simp [dkey, hk]
theorem dkey_inj {t u : Tm} (ht : Sk t) (hu : Sk u) (h : dkey t = dkey u) : t = u :=
  sigV_inj ht hu (dgLaw.inj (dkey_of ht.ok) (by rw [h]; exact dkey_of hu.ok))
theorem dkey_lit {t : Tm} (ht : t.ok) : ∃ k, dkey t = k ∧ WideAt.IsKeyLit k := by
  have h := dkey_of ht
  generalize dkey t = k at h
  exact ⟨k, rfl, dgLaw.key h⟩

/-- The map says the first term of each signature. -/
def SgIs (W : World) (mb : Nat) (fm : List (Key × Nat)) : Prop := ∃ D, mapIs W 288 mb D ∧ Maps.size D ≤ fm.length ∧ ∀ s, Sk s → Says D (dkey s) (fstK fm (s.name, s.args))
theorem SgIs.keep {W W' : World} {mb : Nat} {fm : List (Key × Nat)} (h : SgIs W mb fm) (hb : W'.heap[mb]? = W.heap[mb]?) : SgIs W' mb fm := by
  obtain ⟨D, h1, h2, h3⟩ := h
  obtain ⟨es, clock, e1, e2⟩ := h1
  exact ⟨D, ⟨es, clock, hb.trans e1, e2⟩, h2, h3⟩
theorem SgIs.lt {W : World} {mb : Nat} {fm : List (Key × Nat)} (h : SgIs W mb fm) : ∃ es clock, W.heap[mb]? = some (Obj.map es clock) := by
  obtain ⟨D, ⟨es, clock, e1, _⟩, _⟩ := h
  exact ⟨es, clock, e1⟩
theorem fstK_snoc (fm : List (Key × Nat)) (k k' : Key) (n : Nat) (h : fstK fm k = none) : fstK (fm ++ [(k, n)]) k' = if k' = k then some n else fstK fm k' := by
  unfold fstK at *
  rw [List.find?_append]
  by_cases e : k' = k
  · subst e
    rw [if_pos rfl]
    have : fm.find? (fun e => decide (e.1 = k')) = none := by simpa using h
    rw [this]
    simp
  · rw [if_neg e]
    have : ([(k, n)] : List (Key × Nat)).find? (fun e => decide (e.1 = k')) = none := by simp; exact fun x => e x.symm
    rw [this]
    simp
theorem SgIs.look {W : World} {mb : Nat} {fm : List (Key × Nat)} (h : SgIs W mb fm) {s : Tm} (hs : Sk s) : (Instr.lookup 286 (.map (some mb)) (sigV s) true).run Tryz.prog W = .ok (.tuple #[.int .i64 (((fstK fm (s.name, s.args)).getD 0 : Nat) : Int), .bool (fstK fm (s.name, s.args)).isSome]) W := by
  obtain ⟨D, d1, d2, d3⟩ := h
  exact (d3 s hs).look d1 dgLaw Tryz.underlying286 (dkey_of hs.ok)
theorem SgIs.store {W : World} {mb : Nat} {fm : List (Key × Nat)} (h : SgIs W mb fm) {s : Tm} (hs : Sk s) (hno : fstK fm (s.name, s.args) = none) {n : Nat} (hn : n < 100000) (hfm : fm.length < 1000000) :
    ∃ W2, (Instr.mapUpdate 286 (.map (some mb)) (sigV s) (.int .i64 (n : Int))).run Tryz.prog W = .ok () W2 ∧ SgIs W2 mb (fm ++ [((s.name, s.args), n)]) ∧ Kept1 mb W W2 := by
  obtain ⟨D, d1, d2, d3⟩ := h
  obtain ⟨w', hr, ho, hturn⟩ := World.ownsMap.store d1 dgLaw Tryz.underlying286 (by unfold maxLen; omega) (dkey_of hs.ok) (plainElem_int Tryz.underlying3 (wf64 hn))
  have tidy := World.ownsMap.tidy d1 dgLaw
  refine ⟨w', hr, ⟨_, mapIs_of ho, ?_, fun u hu => ?_⟩, Kept1.of_grown hturn.grown⟩
  · rw [size_put tidy]
    simp only [List.length_append, List.length_singleton]
    split <;> omega
  · rw [fstK_snoc fm _ _ n hno]
    by_cases e : u = s
    · subst e
      rw [if_pos rfl]
      obtain ⟨kk, e, hk⟩ := dkey_lit hu.ok
      rw [e]
      exact Says.put_same tidy.isMap hk n
    · have hk : ¬ (u.name, u.args) = (s.name, s.args) := fun e2 => e (by
        cases u; cases s; simp at e2; simp [e2])
      rw [if_neg hk]
      exact (d3 u hu).put_other (fun x => e (dkey_inj hu hs x)) _
theorem SgIs.new (W : World) : SgIs (W.alloc (.map #[] 0)) W.heap.size [] := by
  have m1 := World.ownsMap_made (H := Unit) W Tryz.prog 288 (plainElem Tryz.prog 3)
  exact ⟨.map [], mapIs_of m1, Nat.zero_le _, fun s _ => ⟨rfl, rfl⟩⟩

end Go.Proofs.YtlehlgipbhfioaaGreat
