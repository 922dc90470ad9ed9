/- Package term: the bank in memory. Package term: fits. internal/stringslite.Clone's contract at this program, by the kit's shelf; strings.Clone. Package find: Join. Package term: add. Package find: New, unhang. -/
import Derived.Test.YtinphcnknionmabP01
import Derived.Shelf.LaysM
import Derived.Shelf.Strconv.Clone
import Derived.Deep.RegionLaw
import Derived.RangeFuncBox
namespace Go.Proofs.Ytinphcnknionmab
open Go.RowKit Go.Maps

/-- A map of numbers, as tight as it is. -/
def mapIs (w : World) (k : TypeId) (b : Nat) (D : DataW Unit) : Prop := w.ownsMap Try.prog k (plainElem Try.prog 3) b (Maps.size D) D

theorem mapIs_of {w : World} {k : TypeId} {b n : Nat} {D : DataW Unit} (h : w.ownsMap Try.prog k (plainElem Try.prog 3) b n D) : mapIs w k b D := by
  obtain ⟨es, clock, hb, F, hs, rfl⟩ := h
  exact ⟨es, clock, hb, F, by simp [Maps.size, length_sorted], rfl⟩

/-- What a term reads as in the map of numbers. -/
noncomputable def ekey (t : Tm) : Lit := (keyOf Try.prog 128 (entryV t)).getD (.bool false)
theorem ekey_of {t : Tm} (h : t.ok) : keyOf Try.prog 128 (entryV t) = some (ekey t) := by
  obtain ⟨kl, hk⟩ := entry_key t h
  simp [ekey, hk]

theorem args_ext {a b : List Nat} (hl : a.length = b.length) (h4 : a.length ≤ 4) (h : ∀ i, i < 4 → a.getD i 0 = b.getD i 0) : a = b := by
  apply List.ext_getElem hl
  intro i h1 h2
  have := h i (by omega)
  rw [List.getD_eq_getElem?_getD, List.getD_eq_getElem?_getD, List.getElem?_eq_getElem h1, List.getElem?_eq_getElem h2] at this
  simpa using this

theorem entryV_inj {t u : Tm} (ht : t.ok) (h : entryV t = entryV u) : t = u := by
  obtain ⟨n, a⟩ := t
  obtain ⟨m, b⟩ := u
  simp [entryV, entryL, Tm.arg] at h
  obtain ⟨h0, h1, h2, h3, h4, h5⟩ := h
  have hl : a.length = b.length := by omega
  have : a = b := args_ext hl ht.args (fun i hi => by
    rcases (by omega : i = 0 ∨ i = 1 ∨ i = 2 ∨ i = 3) with rfl | rfl | rfl | rfl <;> simp only [List.getD_eq_getElem?_getD] <;> omega)
  rw [h0, this]

theorem ekey_inj {t u : Tm} (ht : t.ok) (hu : u.ok) (h : ekey t = ekey u) : t = u :=
  entryV_inj ht (tLaw.inj (ekey_of ht) (by rw [h]; exact ekey_of hu))

def skey (n : ByteArray) : Lit := .string n.data.toList
theorem skey_of {n : ByteArray} (h : n.size ≤ 6) : keyOf Try.prog 9 (.string n) = some (skey n) := WideMaps.keyOf_string_mk Try.underlying9 (Nat.le_trans h (by decide))
theorem skey_inj {n m : ByteArray} (h : skey n = skey m) : n = m := WideShapes.bytes_inj (by simpa [skey] using h)

/-- The number of a term; of a name's first term. -/
def nix (l : List Tm) (t : Tm) : Option Nat := l.findIdx? (fun x => decide (x = t))
def fst (l : List Tm) (n : ByteArray) : Option Nat := l.findIdx? (fun x => decide (x.name = n))

/-- Is term i the first one of its name? How many are? -/
def isF (l : List Tm) (i : Nat) : Bool := match l[i]? with
  | some t => decide (fst l t.name = some i)
  | none => false
def cntF (l : List Tm) : Nat := ((List.range l.length).filter (isF l)).length
theorem cntF_le (l : List Tm) : cntF l ≤ l.length := by
  have := List.length_filter_le (isF l) (List.range l.length)
  simpa [cntF] using this

/-- A map says at a key what o says. -/
def Says (D : DataW Unit) (kl : Lit) (o : Option Nat) : Prop := Maps.has D kl = o.isSome ∧ D.atKey kl (.lit (.int .i64 0)) = .lit (.int .i64 ((o.getD 0 : Nat) : Int))

theorem Says.put_same {D : DataW Unit} {kl : Lit} (hD : IsMap D) (hk : WideAt.IsKeyLit kl) (n : Nat) : Says (D.put kl (.lit (.int .i64 (n : Int)))) kl (some n) :=
  ⟨has_put_same hD hk _, atKey_put_same hD hk _ _⟩
theorem Says.put_other {D : DataW Unit} {kl kl' : Lit} {o : Option Nat} (h : Says D kl' o) (hne : kl' ≠ kl) (d : DataW Unit) : Says (D.put kl d) kl' o :=
  ⟨by rw [has_put_other hne]; exact h.1, by rw [atKey_put_other hne]; exact h.2⟩
theorem Says.del_same {D : DataW Unit} {kl : Lit} : Says (D.del kl) kl none := ⟨has_del_same, atKey_del_same _⟩
theorem Says.del_other {D : DataW Unit} {kl kl' : Lit} {o : Option Nat} (h : Says D kl' o) (hne : kl' ≠ kl) : Says (D.del kl) kl' o :=
  ⟨by rw [has_del_other hne]; exact h.1, by rw [atKey_del_other hne]; exact h.2⟩

def bankC (ev : Value) (nb fb : Nat) (j : Nat) : Value := if j = 0 then ev else if j = 1 then .map (some nb) else .map (some fb)

/-- A bank at block p: its row of entries, and two maps. -/
structure Bk (w : World) (base p : Nat) (ev : Value) (nb fb : Nat) (l : List Tm) : Prop where
  bank : w.rowIs p 85 3 (bankC ev nb fb)
  rows : w.ownsRow base 128 6 ev l.length (l.flatMap entryL)
  nums : ∃ D, mapIs w 128 nb D ∧ Maps.size D = l.length ∧ ∀ t : Tm, t.ok → Says D (ekey t) (nix l t)
  fsts : ∃ D, mapIs w 9 fb D ∧ Maps.size D = cntF l ∧ ∀ n : ByteArray, n.size ≤ 6 → Says D (skey n) (fst l n)
  oks : ∀ t ∈ l, t.ok
  nodup : l.Nodup
  pn : p ≠ nb
  pf : p ≠ fb
  nf : nb ≠ fb
  ep : ev.ownBlock ≠ some p
  en : ev.ownBlock ≠ some nb
  ef : ev.ownBlock ≠ some fb
  bp : base ≤ p
  bn : base ≤ nb
  bf : base ≤ fb
  small : l.length ≤ 1000

theorem Bk.c0 {w : World} {base p : Nat} {ev : Value} {nb fb : Nat} {l : List Tm} (h : Bk w base p ev nb fb l) : w.cell? ⟨p, 0, none⟩ = some ev := h.bank.cell (by omega)
theorem Bk.c1 {w : World} {base p : Nat} {ev : Value} {nb fb : Nat} {l : List Tm} (h : Bk w base p ev nb fb l) : w.cell? ⟨p, 1, none⟩ = some (.map (some nb)) := h.bank.cell (i := 1) (by omega)
theorem Bk.c2 {w : World} {base p : Nat} {ev : Value} {nb fb : Nat} {l : List Tm} (h : Bk w base p ev nb fb l) : w.cell? ⟨p, 2, none⟩ = some (.map (some fb)) := h.bank.cell (i := 2) (by omega)
theorem Bk.drewN {w : World} {base p : Nat} {ev : Value} {nb fb : Nat} {l : List Tm} (h : Bk w base p ev nb fb l) (m : Nat) : Bk (w.drewN m) base p ev nb fb l :=
  ⟨h.bank, h.rows, h.nums, h.fsts, h.oks, h.nodup, h.pn, h.pf, h.nf, h.ep, h.en, h.ef, h.bp, h.bn, h.bf, h.small⟩
theorem Bk.eform {w : World} {base p : Nat} {ev : Value} {nb fb : Nat} {l : List Tm} (h : Bk w base p ev nb fb l) : ∃ a cap, ev = .slice a l.length cap := by
  rcases h.rows.2 with ⟨rfl, h0⟩ | ⟨b, cap, cur, rfl, _⟩
  · rw [h0]; exact ⟨none, 0, rfl⟩
  · exact ⟨_, cap, rfl⟩

theorem Bk.grown {w w' : World} {base p : Nat} {ev : Value} {nb fb : Nat} {l : List Tm} {row : Option Nat} (h : Bk w base p ev nb fb l) (K : w.grownBy w' row) (hp : some p ≠ row) (hn : some nb ≠ row) (hf : some fb ≠ row) (he : row = none ∨ ev.ownBlock ≠ row) : Bk w' base p ev nb fb l := by
  obtain ⟨Dn, n1, n2, n3⟩ := h.nums
  obtain ⟨Df, f1, f2, f3⟩ := h.fsts
  exact ⟨h.bank.of_block (K.block p h.bank.lt hp), h.rows.kept K (he.elim (fun e => e ▸ Decidable.em (ev.ownBlock = none)) Or.inr), ⟨Dn, World.ownsMap.kept n1 K hn, n2, n3⟩, ⟨Df, World.ownsMap.kept f1 K hf, f2, f3⟩, h.oks, h.nodup, h.pn, h.pf, h.nf, h.ep, h.en, h.ef, h.bp, h.bn, h.bf, h.small⟩

abbrev Kept0 (w w' : World) : Prop := Kept (fun _ => False) w w'
theorem Kept0.grownBy {w w' : World} (h : Kept0 w w') : w.grownBy w' none := ⟨h.os, h.tape, h.output, h.size, fun k hk _ => h.block k hk (fun e => e)⟩
theorem Bk.kept0 {w w' : World} {base p : Nat} {ev : Value} {nb fb : Nat} {l : List Tm} (h : Bk w base p ev nb fb l) (K : Kept0 w w') : Bk w' base p ev nb fb l :=
  h.grown K.grownBy (by simp) (by simp) (by simp) (Or.inl rfl)
theorem Bk.kept1 {w w' : World} {base p : Nat} {ev : Value} {nb fb : Nat} {l : List Tm} {x : Nat} (h : Bk w base p ev nb fb l) (K : Kept1 x w w') (hp : p ≠ x) (hn : nb ≠ x) (hf : fb ≠ x) (he : ev.ownBlock ≠ some x) : Bk w' base p ev nb fb l :=
  h.grown K.grownBy (by simpa using hp) (by simpa using hn) (by simpa using hf) (Or.inr he)

/-- 'v, ok := firsts[n]', 'numbers[e]', 'firsts[n]'. -/
theorem Says.look {w : World} {k t : TypeId} {b : Nat} {D : DataW Unit} {key : Value} {kl : Lit} {o : Option Nat} (h : mapIs w k b D) (S : Says D kl o) (K : Keyed Try.prog k) (ht : Try.prog.underlying t = some (.map k 3)) (hkey : keyOf Try.prog k key = some kl) :
    (Instr.lookup t (.map (some b)) key true).run Try.prog w = .ok (.tuple #[.int .i64 ((o.getD 0 : Nat) : Int), .bool o.isSome]) w := by
  obtain ⟨v, ps, hrun, hv⟩ := World.ownsMap.look_ok h K ht (zeroI w) (plainElem_int Try.underlying3 (by decide)) hkey
  rw [S.2] at hv
  obtain ⟨c, rfl, hc, _⟩ := plainElem_int_inv Try.underlying3 hv
  have hc' := congrArg Prod.fst hc
  simp at hc'
  rw [hrun, S.1, hc']

theorem Bk.lookF {w : World} {base p : Nat} {ev : Value} {nb fb : Nat} {l : List Tm} (h : Bk w base p ev nb fb l) {n : ByteArray} (hn : n.size ≤ 6) :
    (Instr.lookup 82 (.map (some fb)) (.string n) true).run Try.prog w = .ok (.tuple #[.int .i64 (((fst l n).getD 0 : Nat) : Int), .bool (fst l n).isSome]) w := by
  obtain ⟨D, f1, _, f3⟩ := h.fsts
  exact (f3 n hn).look f1 sLaw Try.underlying82 (skey_of hn)
theorem Bk.lookN {w : World} {base p : Nat} {ev : Value} {nb fb : Nat} {l : List Tm} (h : Bk w base p ev nb fb l) {t : Tm} (ht : t.ok) :
    (Instr.lookup 81 (.map (some nb)) (entryV t) true).run Try.prog w = .ok (.tuple #[.int .i64 (((nix l t).getD 0 : Nat) : Int), .bool (nix l t).isSome]) w := by
  obtain ⟨D, f1, _, f3⟩ := h.nums
  exact (f3 t ht).look f1 tLaw Try.underlying81 (ekey_of ht)

/-- The entry's cells in the row. -/
theorem flat_getElem (l : List Tm) (i j : Nat) (hj : j < 6) : (l.flatMap entryL)[i * 6 + j]? = (l[i]?).bind (fun t => (entryL t)[j]?) := by
  induction l generalizing i with
  | nil => simp
  | cons t l ih =>
    cases i with
    | zero => rcases (by omega : j = 0 ∨ j = 1 ∨ j = 2 ∨ j = 3 ∨ j = 4 ∨ j = 5) with rfl | rfl | rfl | rfl | rfl | rfl <;> simp [entryL]
    | succ i =>
      have e : (i + 1) * 6 + j = 6 + (i * 6 + j) := by omega
      simp [List.flatMap_cons, e]
      rw [List.getElem?_append_right (by simp [entryL])]
      simpa [entryL] using ih i

theorem Bk.at {w : World} {base p : Nat} {ev : Value} {nb fb : Nat} {l : List Tm} (h : Bk w base p ev nb fb l) {i : Nat} {t : Tm} (hi : l[i]? = some t) :
    ∃ g cap, ev = .slice (some ⟨g, 0, none⟩) l.length cap ∧ ∀ j u, (entryL t)[j]? = some u → w.cell? ⟨g, i * 6 + j, none⟩ = some u := by
  have hlt : i < l.length := (List.getElem?_eq_some_iff.1 hi).1
  rcases h.rows.2 with ⟨e, h0⟩ | ⟨b, cap, cur, e, _⟩
  · omega
  · refine ⟨b, cap, e, fun j u hj => ?_⟩
    have hj6 : j < 6 := by have := (List.getElem?_eq_some_iff.1 hj).1; simpa [entryL] using this
    have := h.rows.cells (g := b) (by rw [e]; rfl) (i * 6 + j) u (by rw [flat_getElem l i j hj6, hi]; exact hj)
    simp [Addr.add] at this
    split at this
    · next e0 => rw [e0.1, e0.2]; exact this
    · exact this

set_option maxHeartbeats 400000 in
theorem size_in (w : World) (base p : Nat) (ev : Value) (nb fb : Nat) (l : List Tm) (h : Bk w base p ev nb fb l) :
    Calls Try.prog 74 #[.pointer (some ⟨p, 0, none⟩)] w fun e w' => e = .returned (.int .i64 (l.length : Int)) ∧ w = w' := by
  obtain ⟨a, cap, rfl⟩ := h.eform
  have c0 := h.c0
  have hs := h.small
  clear h
  go_enter Try.func74, Try.ntmps74
  go_wp2
  go_ret
  exact ⟨rfl, rfl⟩

set_option maxHeartbeats 400000 in
theorem thas_in (w : World) (base p : Nat) (ev : Value) (nb fb : Nat) (l : List Tm) (h : Bk w base p ev nb fb l) (a : Int) :
    Calls Try.prog 54 #[.pointer (some ⟨p, 0, none⟩), .int .i64 a] w fun e w' => e = .returned (.bool (inB l.length a)) ∧ w = w' := by
  obtain ⟨x, cap, rfl⟩ := h.eform
  have c0 := h.c0
  have hs := h.small
  clear h
  go_enter Try.func54, Try.ntmps54
  go_wp2
  · go_ret
    exact ⟨ret_bool (inB_ge ‹_›), rfl⟩
  · go_ret
    exact ⟨ret_bool (inB_lt ‹_›), rfl⟩

end Go.Proofs.Ytinphcnknionmab

namespace Go.Proofs.Ytinphcnknionmab
open Go.RowKit Go.Maps

def fitsB (l : List Tm) (t : Tm) : Bool := match fst l t.name with
  | none => true
  | some i => match l[i]? with
    | none => true
    | some u => decide (u.args.length = t.args.length)

theorem fst_some {l : List Tm} {n : ByteArray} {i : Nat} (h : fst l n = some i) : ∃ u, l[i]? = some u ∧ u.name = n := by
  obtain ⟨hi, hp, _⟩ := List.findIdx?_eq_some_iff_getElem.1 h
  exact ⟨l[i], List.getElem?_eq_getElem hi, of_decide_eq_true hp⟩

/-- The box of an entry. -/
theorem boxed (w : World) (t : Tm) : ∀ j u, (entryL t)[j]? = some u → (w.alloc (.cells (entryL t).toArray 128)).cell? ⟨w.heap.size, j, none⟩ = some u := by
  intro j u hj
  rw [World.cell?_alloc_at _ _ _ _ rfl, List.getElem?_toArray]
  exact hj

set_option maxHeartbeats 400000 in
theorem fits_in (w : World) (base p : Nat) (ev : Value) (nb fb : Nat) (l : List Tm) (h : Bk w base p ev nb fb l) (t : Tm) (ht : t.ok) :
    Calls Try.prog 83 #[.pointer (some ⟨p, 0, none⟩), entryV t] w fun e w' => e = .returned (.bool (fitsB l t)) ∧ Bk w' base p ev nb fb l ∧ Kept0 w w' := by
  have c0 := h.c0
  have c2 := h.c2
  have b0 := boxed w t 0 _ rfl
  have b1 := boxed w t 1 _ rfl
  unfold entryV entryL
  unfold entryL at b0 b1
  go_enter Try.func83, Try.ntmps83
  go_wp2_with fail
  generalize hw1 : w.alloc (Obj.cells #[.string t.name, .int .i64 (t.args.length : Int), .int .i64 (t.arg 0 : Int), .int .i64 (t.arg 1 : Int), .int .i64 (t.arg 2 : Int), .int .i64 (t.arg 3 : Int)] 128) = w1 at b0 b1 ⊢
  have K1 : Kept0 w w1 := hw1 ▸ Kept.alloc (Kept.refl _ w) _
  have H1 := h.kept0 K1
  have c0 := H1.c0
  have c2 := H1.c2
  have LF := fun m => (H1.drewN m).lookF ht.name
  cases hf : fst l t.name with
  | none =>
    rw [hf] at LF
    simp only [Option.getD_none, Option.isSome_none] at LF
    have hB : fitsB l t = true := by simp [fitsB, hf]
    go_quiet (fail)
    go_wp2_with fail
    go_quiet (fail)
    go_wp2_with fail
    go_ret
    exact ⟨ret_bool hB.symm, (H1.drewN _).drewN _, (Kept.drewN K1 _).drewN _⟩
  | some i =>
    rw [hf] at LF
    simp only [Option.getD_some, Option.isSome_some] at LF
    obtain ⟨u, hu, hun⟩ := fst_some hf
    have hil : i < l.length := (List.getElem?_eq_some_iff.1 hu).1
    have hsm := h.small
    have hB : fitsB l t = decide (u.args.length = t.args.length) := by simp [fitsB, hf, hu]
    obtain ⟨g, cap, rfl, hg⟩ := H1.at hu
    have g1 := hg 1 _ rfl
    go_quiet (fail)
    go_wp2_with fail
    go_quiet (fail)
    go_wp2_with fail
    go_ret
    refine ⟨ret_bool ?_, (H1.drewN _).drewN _, (Kept.drewN K1 _).drewN _⟩
    rw [hB, Bool.eq_iff_iff]
    simp
    omega

end Go.Proofs.Ytinphcnknionmab

namespace Go.Proofs
open Go.Shelf
def Try.laysM316_ren : Go.Shelf.Ren := ⟨fun | 316 => 88 | n => n, fun | 9 => 9 | 3 => 3 | 4 => 4 | 37 => 90 | 0 => 0 | 127 => 120 | 5 => 5 | n => n, fun | n => n⟩
theorem Try.laysM316 : Go.Proofs.LaysM.n316 Try.prog Try.laysM316_ren := {
  mixed := by kernel_rfl
  f316 := Try.func88.trans (congrArg some (by kernel_rfl))
  t0 := Try.underlying0
  a0 := Try.isAgg0
  z0 := Try.sizeOf0
  v0 := Try.zeroValue0
  t3 := Try.underlying3
  a3 := Try.isAgg3
  z3 := Try.sizeOf3
  v3 := Try.zeroValue3
  t4 := Try.underlying4
  a4 := Try.isAgg4
  z4 := Try.sizeOf4
  v4 := Try.zeroValue4
  t9 := Try.underlying9
  a9 := Try.isAgg9
  z9 := Try.sizeOf9
  v9 := Try.zeroValue9
  t37 := Try.underlying90
  a37 := Try.isAgg90
  z37 := Try.sizeOf90
  v37 := Try.zeroValue90
  t127 := Try.underlying120
  a127 := Try.isAgg120
  z127 := Try.sizeOf120
  v127 := Try.zeroValue120
  t5 := Try.underlying5
  a5 := Try.isAgg5
  z5 := Try.sizeOf5
  v5 := Try.zeroValue5
  i0 := by kernel_rfl
  i3 := by kernel_rfl
  i4 := by kernel_rfl
  i5 := by kernel_rfl
  i9 := by kernel_rfl
  i37 := by kernel_rfl
  i127 := by kernel_rfl }
end Go.Proofs
namespace Go.Proofs.Ytinphcnknionmab
open Go.RowKit
theorem slClone_any (s : ByteArray) (w : World) (h : s.size ≤ 6) :
    Calls Try.prog 88 #[.string s] w fun e w' => e = .returned (.string s) ∧ Below w.heap.size w w' := Any.stringslite_Clone Try.laysM316 s w (by omega)

theorem Below.kept0 {w w' : World} (h : Below w.heap.size w w') : Kept (fun _ => False) w w' := ⟨h.os, h.tape, h.output, h.size, fun k hk _ => h.block k hk⟩

set_option maxHeartbeats 400000 in
theorem clone_any (s : ByteArray) (w : World) (h : s.size ≤ 6) :
    Calls Try.prog 87 #[.string s] w fun e w' => e = .returned (.string s) ∧ Kept (fun _ => False) w w' := by
  go_enter Try.func87, Try.ntmps87
  go_wp2_with (go_at_call 88; refine (slClone_any _ _ h).mono ?_; rintro e w2 ⟨rfl, hb⟩)
  go_ret
  exact ⟨rfl, Below.kept0 hb⟩

end Go.Proofs.Ytinphcnknionmab

namespace Go.Proofs.Ytinphcnknionmab
open Go.RowKit

/-- append onto a row of one's own: told besides: what comes lies where the row lay, or in a new block. -/
theorem run_append_here {P : Program} (w : World) (base : Nat) (t ty e : TypeId) (i : TypeInfo) (z : Value) (size bytes : Nat) (ht : P.underlying t = some (.slice e)) (hi : P.info? e = some i) (hz : i.zero = some z)
    (hsize : i.size = size) (hby : i.bytes = bytes) (hzs : z.cells.size = size) (hsz : 0 < size)
    (v : Value) (n : Nat) (xs : List Value) (hown : w.ownsRow base e size v n xs)
    (a : Addr) (m c : Nat) (news : List Value) (hl : news.length = m * size) (hnews : ∀ j u, news[j]? = some u → w.cell? (a.add j) = some u) (h1 : ∀ u ∈ news, u.oneCell' = true)
    (h63 : n + m ≤ maxLen) (hbytes : (n + m) * bytes ≤ 140737488355328) (hbase : base ≤ w.heap.size) :
    ∃ v' w', (Builtin.append_ #[t, t] ty #[v, .slice (some a) m c]).run P w = .ok v' w' ∧ w'.ownsRow base e size v' (n + m) (xs ++ news) ∧ w.grownBy w' v.ownBlock ∧
      (v'.ownBlock = v.ownBlock ∨ ∀ k, v'.ownBlock = some k → w.heap.size ≤ k) := by
  obtain ⟨v', w', hr, r1, r2, _⟩ := run_append_own (P := P) w base t ty e i z size bytes ht hi hz hsize hby hzs hsz v n xs hown a m c news hl hnews h1 h63 hbytes hbase
  refine ⟨v', w', hr, r1, r2, ?_⟩
  rcases hown.2 with ⟨rfl, rfl⟩ | ⟨g, cap, cur, rfl, hbg, hg, hnc, hcm, hcs, htake⟩
  · obtain rfl : xs = [] := List.eq_nil_of_length_eq_zero (by simpa using hown.1)
    obtain ⟨v2, w2, hr2, s1, _⟩ := run_append_own (P := P) w w.heap.size t ty e i z size bytes ht hi hz hsize hby hzs hsz (.slice none 0 0) 0 [] (World.ownsRow_nil w _ e size) a m c news hl hnews h1 h63 hbytes (Nat.le_refl _)
    rw [hr] at hr2
    cases hr2
    exact Or.inr fun k hk => (s1.lt k hk).1
  · by_cases hroom : n + m ≤ cap
    · subst hsize
      have hfit : n * i.size + news.length ≤ cur.size := by rw [hl, hcs, ← Nat.add_mul]; exact Nat.mul_le_mul_right _ hroom
      have hr2 := run_append_room (P := P) w t ty e i ht hi g n cap cur hg a m c news hl hnews h1 hroom hfit
      rw [hr] at hr2
      cases hr2
      exact Or.inl rfl
    · obtain ⟨v2, w2, hr2, s1, _⟩ := run_append_arg_grows (P := P) w t ty e i z size bytes ht hi hz hsize hby hzs hsz ⟨g, 0, none⟩ n cap xs hown.1 (hown.cells (g := g) rfl) a m c news hl hnews (by omega) h63 hbytes
      rw [hr] at hr2
      cases hr2
      exact Or.inr fun k hk => (s1.lt k hk).1

/-- .. as one step of a region that draws. -/
theorem step_append_here {P : Program} {ops : Array Oper} {o : Oper} {a : Act} {w : World} {K : Act → World → Prop} {Q : Exit → Act → World → Prop} {E : Prop}
    (hg : o.guard = none) (s x : Operand) (t : TypeId) (hop : o.op = Op.call { callee := Callee.builtin Builtin.append, args := #[s, x], argTypes := #[t, t] })
    (base : Nat) (e : TypeId) (i : TypeInfo) (z : Value) (size bytes : Nat) (h1 : P.underlying t = some (.slice e)) (h2 : P.info? e = some i) (h3 : i.zero = some z) (h4 : i.size = size) (h5 : i.bytes = bytes) (h6 : z.cells.size = size) (h7 : 0 < size)
    (v : Value) (n : Nat) (xs : List Value) (hs : a.eval s = v) (hown : w.ownsRow base e size v n xs)
    (ad : Addr) (m c : Nat) (news : List Value) (hx : a.eval x = .slice (some ad) m c) (hn : news.length = m * size) (hc : ∀ j u, news[j]? = some u → w.cell? (ad.add j) = some u) (h1c : ∀ u ∈ news, u.oneCell' = true)
    (b1 : n + m ≤ maxLen) (b2 : (n + m) * bytes ≤ 140737488355328) (hbase : base ≤ w.heap.size)
    (hK : ∀ v' w', w'.ownsRow base e size v' (n + m) (xs ++ news) → w.grownBy w' v.ownBlock → (v'.ownBlock = v.ownBlock ∨ ∀ k, v'.ownBlock = some k → w.heap.size ≤ k) → K (a.put o.dst v') w') :
    if Region.wanted o (yielded ops a.tmps) = true then Oper.wp P o a w K Q else E := by
  have hw : Region.wanted o (yielded ops a.tmps) = true := by simp [Region.wanted, hg]
  rw [if_pos hw]
  obtain ⟨v', w', hrun, r1, r2, r3⟩ := run_append_here (P := P) w base t o.type e i z size bytes h1 h2 h3 h4 h5 h6 h7 v n xs hown ad m c news hn hc h1c b1 b2 hbase
  unfold Oper.wp
  simp [execOp, hop, resolve, invoke, builtin, hs, hx, hrun, Result.andThen]
  exact hK v' w' r1 r2 r3

theorem cell_two_news (w : World) (m : Nat) (x y : Value) (t : TypeId) : ∀ j u, [x, y][j]? = some u → ((w.drewN m).alloc (.cells #[x, y] t)).cell? ((⟨w.heap.size, 0, none⟩ : Addr).add j) = some u := by
  intro j u hj
  have e : ∀ k, ((w.drewN m).alloc (.cells #[x, y] t)).cell? ⟨w.heap.size, k, none⟩ = #[x, y][k]? := fun k => World.cell?_alloc_at (w := w.drewN m) _ t _ k rfl
  match j, hj with
  | 0, hj => simp at hj; subst hj; rw [show (⟨w.heap.size, 0, none⟩ : Addr).add 0 = ⟨w.heap.size, 0, none⟩ from by simp [Addr.add], e]; rfl
  | 1, hj => simp at hj; subst hj; rw [show (⟨w.heap.size, 0, none⟩ : Addr).add 1 = ⟨w.heap.size, 1, none⟩ from by simp [Addr.add], e]; rfl
  | j + 2, hj => simp at hj

theorem joinC_snoc (js : List (Nat × Nat)) (c l : Nat) : joinC (js ++ [(c, l)]) = joinC js ++ [.int .i64 (c : Int), .int .i64 (l : Int)] := by simp [joinC]

abbrev Foot (p nb : Nat) (jv : Value) (k : Nat) : Prop := k = p ∨ k = nb ∨ jv.ownBlock = some k

theorem rowIs_type {w : World} {b : Nat} {t e : TypeId} {n : Nat} {f : Nat → Value} (h : w.rowIs b t n f) (hne : t ≠ e) {base size k : Nat} {v : Value} {xs : List Value} (hr : w.ownsRow base e size v k xs) : v.ownBlock ≠ some b := by
  intro hb
  rcases hr.2 with ⟨rfl, _⟩ | ⟨g, cap, cur, rfl, _, hg, _⟩
  · simp [Value.ownBlock] at hb
  · simp [Value.ownBlock] at hb
    subst hb
    obtain ⟨c, hc, _⟩ := h
    rw [hc] at hg
    simp at hg
    exact hne hg.2

end Go.Proofs.Ytinphcnknionmab

namespace Go.Proofs.Ytinphcnknionmab
open Go.RowKit Go.Maps

theorem nix_snoc (l : List Tm) (t u : Tm) : nix (l ++ [t]) u = match nix l u with
    | some i => some i
    | none => if t = u then some l.length else none := by
  unfold nix
  rw [List.findIdx?_append]
  cases h : List.findIdx? (fun x => decide (x = u)) l with
  | some i => rfl
  | none => by_cases e : t = u <;> simp [List.findIdx?_cons, e]

theorem fst_snoc (l : List Tm) (t : Tm) (n : ByteArray) : fst (l ++ [t]) n = match fst l n with
    | some i => some i
    | none => if t.name = n then some l.length else none := by
  unfold fst
  rw [List.findIdx?_append]
  cases h : List.findIdx? (fun x => decide (x.name = n)) l with
  | some i => rfl
  | none => by_cases e : t.name = n <;> simp [List.findIdx?_cons, e]

theorem fst_mem {l : List Tm} {t : Tm} (h : t ∈ l) : ∃ i, fst l t.name = some i := by
  cases hf : fst l t.name with
  | some i => exact ⟨i, rfl⟩
  | none =>
    have := List.findIdx?_eq_none_iff.1 hf t h
    simp at this
theorem isF_snoc (l : List Tm) (t : Tm) {i : Nat} (hi : i < l.length) : isF (l ++ [t]) i = isF l i := by
  unfold isF
  rw [List.getElem?_append_left hi, List.getElem?_eq_getElem hi]
  obtain ⟨k, hk⟩ := fst_mem (List.getElem_mem hi)
  simp only [fst_snoc, hk]
theorem isF_last (l : List Tm) (t : Tm) : isF (l ++ [t]) l.length = (fst l t.name).isNone := by
  unfold isF
  rw [List.getElem?_append_right (Nat.le_refl _)]
  simp only [Nat.sub_self, List.getElem?_cons_zero, fst_snoc]
  cases hf : fst l t.name with
  | none => simp
  | some i =>
    have hlt : i < l.length := (List.findIdx?_eq_some_iff_getElem.1 hf).1
    simp
    omega
theorem cntF_snoc (l : List Tm) (t : Tm) : cntF (l ++ [t]) = cntF l + (if (fst l t.name).isNone then 1 else 0) := by
  unfold cntF
  rw [List.length_append, List.length_singleton, List.range_succ, List.filter_append, List.length_append]
  have e : (List.range l.length).filter (isF (l ++ [t])) = (List.range l.length).filter (isF l) := List.filter_congr (fun i hi => isF_snoc l t (List.mem_range.1 hi))
  rw [e]
  simp only [List.filter_cons, isF_last, List.filter_nil]
  split <;> simp

theorem nix_none {l : List Tm} {t : Tm} (h : nix l t = none) : t ∉ l := by
  intro hm
  have := List.findIdx?_eq_none_iff.1 h t hm
  simp at this

theorem ekey_lit {t : Tm} (ht : t.ok) : ∃ k, ekey t = k ∧ WideAt.IsKeyLit k := by
  have h := ekey_of ht
  generalize ekey t = k at h
  exact ⟨k, rfl, tLaw.key h⟩
theorem skey_lit {n : ByteArray} (h : n.size ≤ 6) : WideAt.IsKeyLit (skey n) := by
  have h := skey_of h
  generalize skey n = k at h
  exact sLaw.key h

theorem nums_snoc {D : DataW Unit} {l : List Tm} {t : Tm} (h : ∀ u : Tm, u.ok → Says D (ekey u) (nix l u)) (hD : IsMap D) (ht : t.ok) (hn : nix l t = none) :
    ∀ u : Tm, u.ok → Says (D.put (ekey t) (.lit (.int .i64 (l.length : Int)))) (ekey u) (nix (l ++ [t]) u) := by
  intro u hu
  by_cases e : t = u
  · subst e
    rw [nix_snoc, hn]
    simp only [if_true]
    obtain ⟨kk, e, hk⟩ := ekey_lit ht
    rw [e]
    exact Says.put_same hD hk l.length
  · have e1 : nix (l ++ [t]) u = nix l u := by
      rw [nix_snoc]
      cases nix l u <;> simp [e]
    rw [e1]
    exact (h u hu).put_other (fun x => e (ekey_inj hu ht x).symm) _

theorem fsts_snoc {D : DataW Unit} {l : List Tm} {t : Tm} (h : ∀ n : ByteArray, n.size ≤ 6 → Says D (skey n) (fst l n)) (hD : IsMap D) (ht : t.ok) (hn : fst l t.name = none) :
    ∀ n : ByteArray, n.size ≤ 6 → Says (D.put (skey t.name) (.lit (.int .i64 (l.length : Int)))) (skey n) (fst (l ++ [t]) n) := by
  intro n hz
  by_cases e : t.name = n
  · subst e
    rw [fst_snoc, hn]
    simp only [if_true]
    exact Says.put_same hD (skey_lit ht.name) l.length
  · have e1 : fst (l ++ [t]) n = fst l n := by
      rw [fst_snoc]
      cases fst l n <;> simp [e]
    rw [e1]
    exact (h n hz).put_other (fun x => e (skey_inj x).symm) _

theorem fsts_kept {D : DataW Unit} {l : List Tm} {t : Tm} (h : ∀ n : ByteArray, n.size ≤ 6 → Says D (skey n) (fst l n)) {i : Nat} (hn : fst l t.name = some i) :
    ∀ n : ByteArray, n.size ≤ 6 → Says D (skey n) (fst (l ++ [t]) n) := by
  intro n hz
  have e1 : fst (l ++ [t]) n = fst l n := by
    rw [fst_snoc]
    cases hf : fst l n with
    | some i => rfl
    | none =>
      have : ¬ t.name = n := fun e => by rw [e] at hn; rw [hn] at hf; cases hf
      simp [this]
  rw [e1]
  exact h n hz

/-- What add makes of a bank; the number that it answers. -/
def addL (l : List Tm) (t : Tm) : List Tm := match nix l t with
  | some _ => l
  | none => l ++ [t]
def addN (l : List Tm) (t : Tm) : Nat := (nix l t).getD l.length

def BFoot (p : Nat) (ev : Value) (nb fb k : Nat) : Prop := k = p ∨ k = nb ∨ k = fb ∨ ev.ownBlock = some k

set_option maxHeartbeats 400000 in
theorem add_old (w : World) (base p : Nat) (ev : Value) (nb fb : Nat) (l : List Tm) (h : Bk w base p ev nb fb l) (t : Tm) (ht : t.ok) (i : Nat) (hi : nix l t = some i) :
    Calls Try.prog 84 #[.pointer (some ⟨p, 0, none⟩), entryV t] w fun e w' => e = .returned (.int .i64 (i : Int)) ∧ Bk w' base p ev nb fb l ∧ Kept0 w w' := by
  unfold entryV entryL
  have W1 := boxed w t
  unfold entryL at W1
  have b0 := W1 0 _ rfl
  have b1 := W1 1 _ rfl
  have b2 := W1 2 _ rfl
  have b3 := W1 3 _ rfl
  have b4 := W1 4 _ rfl
  have b5 := W1 5 _ rfl
  clear W1
  go_enter Try.func84, Try.ntmps84
  go_wp2_with fail
  generalize hw1 : w.alloc (Obj.cells #[.string t.name, .int .i64 (t.args.length : Int), .int .i64 (t.arg 0 : Int), .int .i64 (t.arg 1 : Int), .int .i64 (t.arg 2 : Int), .int .i64 (t.arg 3 : Int)] 128) = w1 at b0 b1 b2 b3 b4 b5 ⊢
  have K1 : Kept0 w w1 := hw1 ▸ Kept.alloc (Kept.refl _ w) _
  have H1 := h.kept0 K1
  have c0 := H1.c0
  have c1 := H1.c1
  have LN := fun m => (H1.drewN m).lookN ht
  rw [hi] at LN
  simp only [Option.getD_some, Option.isSome_some, entryV, entryL] at LN
  go_quiet (fail)
  go_wp2_with fail
  go_ret
  exact ⟨rfl, H1.drewN _, Kept.drewN K1 _⟩

end Go.Proofs.Ytinphcnknionmab

namespace Go.Proofs.Ytinphcnknionmab
open Go.RowKit

theorem made_row (w : World) (C : Array Value) (t : TypeId) : (w.alloc (.cells C t)).rowIs w.heap.size t C.size (fun i => C[i]?.getD undef) :=
  World.rowIs_alloc w C t _ (fun i hi => by rw [Array.getElem?_eq_getElem hi]; rfl)

theorem box_row (w : World) (x y : Value) (t : TypeId) : (w.alloc (.cells #[x, y] t)).rowIs w.heap.size t 2 (fun j => if j = 0 then x else y) :=
  (made_row w #[x, y] t).congr fun i hi => match i, hi with
    | 0, _ => rfl
    | 1, _ => rfl

theorem new_cells (k : Nat) (f : Nat → Value) (hf : ∀ j, j < k * 4 → f j = nodeC Uf.g0 j) : ∀ j, j < (k + 1) * 4 →
    (if j = k * 4 + 3 then Value.int .i64 (k : Int) else if j = k * 4 + 2 then .int .i64 1 else if j = k * 4 + 1 then .int .i64 (k : Int) else if j = k * 4 then .int .i64 (k : Int) else f j) = nodeC Uf.g0 j := by
  intro j hj
  by_cases h3 : j = k * 4 + 3
  · rw [if_pos h3, h3, nodeC_lst]; rfl
  · by_cases h2 : j = k * 4 + 2
    · rw [if_neg h3, if_pos h2, h2, nodeC_siz]; rfl
    · by_cases h1 : j = k * 4 + 1
      · rw [if_neg h3, if_neg h2, if_pos h1, h1, nodeC_nxt]; rfl
      · by_cases h0 : j = k * 4
        · rw [if_neg h3, if_neg h2, if_neg h1, if_pos h0, h0, nodeC_par]; rfl
        · rw [if_neg h3, if_neg h2, if_neg h1, if_neg h0]; exact hf j (by omega)

/-- Nodes whose cells are just integers. -/
def intC (F : Nat → Int) (j : Nat) : Value := .int .i64 (F j)

def cutF (F : Nat → Int) (c r : Nat) (l : Int) (j : Nat) : Int :=
  if j = r * 4 + 3 then l else if j = r * 4 + 2 then wrap64 (F (r * 4 + 2) - F (c * 4 + 2)) else if j = r * 4 + 1 then F (c * 4 + 1) else if j = c * 4 + 1 then F (r * 4 + 1) else if j = c * 4 then (c : Int) else F j

theorem unhang_cells (g : Uf.G) (c r : Nat) (hne : c ≠ r) (hc : (g.N c).par = c) (j : Nat) :
    (if j = r * 4 + 3 then .int .i64 ((g.N r).lst : Int) else if j = r * 4 + 2 then .int .i64 ((g.N r).siz : Int) else if j = r * 4 + 1 then .int .i64 ((g.N r).nxt : Int) else if j = c * 4 + 1 then .int .i64 ((g.N c).nxt : Int) else if j = c * 4 then .int .i64 (c : Int) else nodeC (Uf.hang g c r) j) = nodeC g j := by
  rw [← hang_cells g c r hne j]
  by_cases h1 : j = r * 4 + 3
  · rw [if_pos h1, h1, nodeC_lst]
  · by_cases h2 : j = r * 4 + 2
    · rw [if_neg h1, if_pos h2, h2, nodeC_siz]
    · by_cases h3 : j = r * 4 + 1
      · rw [if_neg h1, if_neg h2, if_pos h3, h3, nodeC_nxt]
      · by_cases h4 : j = c * 4 + 1
        · rw [if_neg h1, if_neg h2, if_neg h3, if_pos h4, h4, nodeC_nxt]
        · by_cases h5 : j = c * 4
          · rw [if_neg h1, if_neg h2, if_neg h3, if_neg h4, if_pos h5, h5, nodeC_par, hc]
          · rw [if_neg h1, if_neg h2, if_neg h3, if_neg h4, if_neg h5, if_neg h1, if_neg h2, if_neg h3, if_neg h4, if_neg h5]

theorem wrap64_small (a : Int) (h0 : -1000000 ≤ a) (h1 : a ≤ 1000000) : wrap64 a = a := by unfold wrap64; omega

/-- What a take-back makes of the nodes, whatever they are; and of a join's. -/
structure Cut (n : Nat) (F F' : Nat → Int) (c : Nat) (l : Int) : Prop where
  par : ∀ i, i < n → ∃ q : Nat, q < n ∧ F' (i * 4) = (q : Int)
  good : ∀ (g : Uf.G) (r : Nat), c ≠ r → r < n → (g.N c).par = c → l = ((g.N r).lst : Int) → (g.N r).siz + (g.N c).siz ≤ 100000 → (∀ j, j < n * 4 → intC F j = nodeC (Uf.hang g c r) j) → ∀ j, j < n * 4 → intC F' j = nodeC g j

end Go.Proofs.Ytinphcnknionmab
