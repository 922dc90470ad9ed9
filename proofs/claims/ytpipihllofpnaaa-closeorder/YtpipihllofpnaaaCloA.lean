/- Package close: a closure in memory. -/
import Derived.Test.YtpipihllofpnaaaCc
import Derived.Test.YtpipihllofpnaaaTermH
import Derived.Test.YtpipihllofpnaaaFindG
namespace Go.Proofs.Ytpipihllofpnaaa
open Go.RowKit Go.Maps

theorem gRow : (196 : TypeId) < Try.prog.types.size := of_decide_eq_true (by kernel_rfl)
theorem gCells : Try.prog.cellsOf 196 = 5 := by kernel_rfl
theorem gKeyType : Try.prog.keyType 196 = true := by kernel_rfl
theorem gKeyAt : Try.prog.keyTypeAt 3 196 = true := by kernel_rfl
theorem gLaw : Keyed Try.prog 196 := Keyed.of_law (deep_law_laid tLaid (m := 3) (by omega) gRow gKeyAt (by rw [Try.underlying196]))

/-- A signature, as the program keeps it. -/
def sigL (s : Tm) : List Value := [.string s.name, .int .i64 (s.arg 0 : Int), .int .i64 (s.arg 1 : Int), .int .i64 (s.arg 2 : Int), .int .i64 (s.arg 3 : Int)]
def sigV (s : Tm) : Value := .agg (sigL s).toArray

theorem sig_formed (t : Tm) : (sigV t).formed Try.prog 196 = true := by simp [sigV, sigL, Value.formed, Try.underlying196, gCells]

theorem sig_key (t : Tm) (h : t.ok) : ∃ kl, keyOf Try.prog 196 (sigV t) = some kl := by
  have h0 : t.name.size ≤ maxLen := Nat.le_trans h.name (by decide)
  have g0 : (Lit.int .i64 (t.arg 0 : Int)).wf = true := wf64 (by have := h.arg 0; omega)
  have g1 : (Lit.int .i64 (t.arg 1 : Int)).wf = true := wf64 (by have := h.arg 1; omega)
  have g2 : (Lit.int .i64 (t.arg 2 : Int)).wf = true := wf64 (by have := h.arg 2; omega)
  have g3 : (Lit.int .i64 (t.arg 3 : Int)).wf = true := wf64 (by have := h.arg 3; omega)
  unfold keyOf
  rw [Try.underlying196]
  simp only [gKeyType, sig_formed]
  obtain ⟨m, hm⟩ : ∃ m, Try.prog.types.size + 1 = m + 3 := ⟨Try.prog.types.size - 2, by have h9 := gRow; generalize Try.prog.types.size = z at h9 ⊢; exact (by have h8 : 3 ≤ z := Nat.le_trans (by decide) (Nat.le_of_lt h9); omega)⟩
  rw [hm]
  have hr : List.range 4 = [0, 1, 2, 3] := rfl
  simp [Program.keyLits, Try.underlying196, Try.underlying122, Try.underlying3, Try.underlying9, gCells, tCells4, tCellsI, tCellsS, sigV, sigL, Value.cells, hr, h0, g0, g1, g2, g3]

noncomputable def gkey (t : Tm) : Lit := (keyOf Try.prog 196 (sigV t)).getD (.bool false)
theorem gkey_of {t : Tm} (h : t.ok) : keyOf Try.prog 196 (sigV t) = some (gkey t) := by
  obtain ⟨kl, hk⟩ := sig_key t h
  simp [gkey, hk]
/-- A signature that may be asked for. -/
structure Sk (s : Tm) : Prop where
  ok : s.ok
  four : s.args.length = 4
theorem sigV_inj {t u : Tm} (ht : Sk t) (hu : Sk u) (h : sigV t = sigV u) : t = u := by
  have h4 := ht.four
  have k4 := hu.four
  have hok := ht.ok
  clear ht hu
  obtain ⟨n, a⟩ := t
  obtain ⟨m, b⟩ := u
  simp [sigV, sigL, Tm.arg] at h
  obtain ⟨h0, h2, h3, h4', h5⟩ := h
  have hl : a.length = b.length := by simp at h4 k4; omega
  have : a = b := args_ext hl hok.args (fun i hi => by
    rcases (by omega : i = 0 ∨ i = 1 ∨ i = 2 ∨ i = 3) with rfl | rfl | rfl | rfl <;> simp only [List.getD_eq_getElem?_getD] <;> omega)
  rw [h0, this]
theorem gkey_inj {t u : Tm} (ht : Sk t) (hu : Sk u) (h : gkey t = gkey u) : t = u :=
  sigV_inj ht hu (gLaw.inj (gkey_of ht.ok) (by rw [h]; exact gkey_of hu.ok))
theorem gkey_lit {t : Tm} (ht : t.ok) : ∃ k, gkey t = k ∧ WideAt.IsKeyLit k := by
  have h := gkey_of ht
  generalize gkey t = k at h
  exact ⟨k, rfl, gLaw.key h⟩

theorem sg_sk {l : List Tm} (hb : Cc.Bd l) {lo : Nat → Nat} (hle : ∀ i, i < l.length → lo i ≤ i) (hl : l.length ≤ 1000) {n : Nat} {t : Tm} (ht : l[n]? = some t) (hok : t.ok) : Sk (Cc.sg lo t) := by
  have ha : ∀ k, Cc.ar lo t k < 1000 := by
    intro k
    unfold Cc.ar
    cases e : t.args[k]? with
    | none => simp
    | some a =>
      have h1 := hb.args n t ht a (List.mem_of_getElem? e)
      have h2 := hle a h1
      show lo a < 1000
      omega
  refine ⟨⟨hok.name, by simp [Cc.sg], ?_⟩, rfl⟩
  intro a hm
  simp [Cc.sg] at hm
  rcases hm with rfl | rfl | rfl | rfl <;> exact ha _

/-- Blocks that never change. -/
def Sat (st : List (Nat × Obj)) (w : World) : Prop := ∀ x ∈ st, w.heap[x.1]? = some x.2
/-- A slice of numbers in them. -/
def UseIs (st : List (Nat × Obj)) (v : Value) (xs : List Nat) : Prop :=
  ∃ a cap, v = .slice a xs.length cap ∧ xs.length ≤ cap ∧ (xs = [] ∨ ∃ (b off : Nat) (c : Array Value) (fz : Nat × Nat), a = some ⟨b, off, none⟩ ∧ (b, Obj.cells c 3 fz) ∈ st ∧ ∀ j x : Nat, xs[j]? = some x → c[off + j]? = some (Value.int .i64 (x : Int)))
theorem UseIs.mono {st st' : List (Nat × Obj)} {v : Value} {xs : List Nat} (h : UseIs st v xs) (hs : ∀ x ∈ st, x ∈ st') : UseIs st' v xs := by
  obtain ⟨a, cap, e, hc, h⟩ := h
  refine ⟨a, cap, e, hc, h.imp id ?_⟩
  rintro ⟨b, off, c, fz, e1, e2, e3⟩
  exact ⟨b, off, c, fz, e1, hs _ e2, e3⟩
theorem UseIs.cell {st : List (Nat × Obj)} {v : Value} {xs : List Nat} (h : UseIs st v xs) {w : World} (hw : Sat st w) {j x : Nat} (hj : xs[j]? = some x) :
    ∃ b off cap, v = .slice (some ⟨b, off, none⟩) xs.length cap ∧ xs.length ≤ cap ∧ ∀ i y : Nat, xs[i]? = some y → w.cell? ⟨b, off + i, none⟩ = some (.int .i64 (y : Int)) := by
  obtain ⟨a, cap, e, hcap, h⟩ := h
  rcases h with rfl | ⟨b, off, c, fz, e1, e2, e3⟩
  · simp at hj
  · refine ⟨b, off, cap, by rw [e, e1], hcap, fun i y hi => ?_⟩
    have := hw _ e2
    simp only [World.cell?, this]
    exact e3 i y hi
theorem UseIs.form {st : List (Nat × Obj)} {v : Value} {xs : List Nat} (h : UseIs st v xs) : ∃ a cap, v = .slice a xs.length cap := by
  obtain ⟨a, cap, e, _, _⟩ := h
  exact ⟨a, cap, e⟩

/-- All of the classes. -/
structure Zs where
  pk : Nat
  ps : Nat
  nb : Nat
  tb : Nat
  ub : Nat
  mb : Nat
  jv : Value
  bv : Value
  av : Nat → Value
  uv : Nat → Value
  g : Uf.G
  t : List Uf.Rec
  bs : List Value
  st : List (Nat × Obj)
  us : Nat → List Nat
  kn : Tm → Option Nat
  ms : Nat

def Zs.Foot (z : Zs) (k : Nat) : Prop := k = z.pk ∨ Go.Proofs.Ytpipihllofpnaaa.Foot z.ps z.nb z.jv k ∨ k = z.ub ∨ k = z.mb ∨ z.bv.ownBlock = some k

def clsC (z : Zs) (n : Nat) (j : Nat) : Value :=
  if j = 0 then .pointer (some ⟨z.ps, 0, none⟩) else if j = 1 then .slice (some ⟨z.tb, 0, none⟩) n n else if j = 2 then .slice (some ⟨z.ub, 0, none⟩) n n else if j = 3 then .map (some z.mb) else z.bv
def termC (l : List Tm) (av : Nat → Value) (j : Nat) : Value := if j % 2 = 0 then .string ((l[j / 2]?).map Tm.name |>.getD ⟨#[]⟩) else av (j / 2)

/-- The classes lie at block pk. -/
structure Cz (w : World) (base : Nat) (l : List Tm) (z : Zs) : Prop where
  cls : w.rowIs z.pk 150 5 (clsC z l.length)
  sets : St w base z.ps z.nb z.jv l.length z.g z.t
  terms : w.rowIs z.tb 42 (l.length * 2) (termC l z.av)
  uses : w.rowIs z.ub 198 l.length z.uv
  known : ∃ D, mapIs w 196 z.mb D ∧ Maps.size D ≤ z.ms ∧ ∀ s : Tm, Sk s → Says D (gkey s) (z.kn s)
  back : w.ownsRow base 1 1 z.bv z.bs.length z.bs
  sat : Sat z.st w
  far : ∀ x ∈ z.st, base ≤ x.1 ∧ ¬ z.Foot x.1
  argsAt : ∀ (i : Nat) (t : Tm), l[i]? = some t → UseIs z.st (z.av i) t.args
  usesAt : ∀ i, i < l.length → UseIs z.st (z.uv i) (z.us i)
  bd : Cc.Bd l
  oks : ∀ t ∈ l, t.ok
  len : l.length ≤ 150
  bp : base ≤ z.pk
  bt : base ≤ z.tb
  bu : base ≤ z.ub
  bm : base ≤ z.mb

theorem ownsRow_block {w w' : World} {base size n : Nat} {e : TypeId} {v : Value} {xs : List Value} (h : w.ownsRow base e size v n xs) (he : ∀ k, v.ownBlock = some k → w'.heap[k]? = w.heap[k]?) : w'.ownsRow base e size v n xs := by
  refine ⟨h.1, ?_⟩
  rcases h.2 with e | ⟨b, cap, cur, e, e1, e2, e3⟩
  · exact Or.inl e
  · exact Or.inr ⟨b, cap, cur, e, e1, (he b (by rw [e]; rfl)).trans e2, e3⟩
theorem mapIs_block {w w' : World} {k : TypeId} {b : Nat} {D : DataW Unit} (h : mapIs w k b D) (hn : w'.heap[b]? = w.heap[b]?) : mapIs w' k b D := by
  obtain ⟨es, ck, n1, n2, n3, n4⟩ := h
  exact ⟨es, ck, hn.trans n1, n2, n3, n4⟩

/-- All blocks that it lies in. -/
def Zs.All (z : Zs) (k : Nat) : Prop := z.Foot k ∨ k = z.tb ∨ ∃ o, (k, o) ∈ z.st

theorem Cz.foot_lt {w : World} {base : Nat} {l : List Tm} {z : Zs} (h : Cz w base l z) {k : Nat} (hk : z.Foot k) : k < w.heap.size := by
  obtain ⟨D, d1, _⟩ := h.known
  rcases hk with e | (e | e | e) | e | e | e
  · rw [e]; exact h.cls.lt
  · rw [e]; exact h.sets.lies.sets.lt
  · rw [e]; exact h.sets.lies.nodes.lt
  · exact (h.sets.lies.joins.lt k e).2
  · rw [e]; exact h.uses.lt
  · rw [e]; exact World.ownsMap.lt d1
  · exact (h.back.lt k e).2
theorem Cz.foot_ge {w : World} {base : Nat} {l : List Tm} {z : Zs} (h : Cz w base l z) {k : Nat} (hk : z.Foot k) : base ≤ k := by
  rcases hk with e | (e | e | e) | e | e | e
  · rw [e]; exact h.bp
  · rw [e]; exact h.sets.lies.bp
  · rw [e]; exact h.sets.lies.bn
  · exact (h.sets.lies.joins.lt k e).1
  · rw [e]; exact h.bu
  · rw [e]; exact h.bm
  · exact (h.back.lt k e).1
theorem Cz.all_lt {w : World} {base : Nat} {l : List Tm} {z : Zs} (h : Cz w base l z) {k : Nat} (hk : z.All k) : k < w.heap.size := by
  rcases hk with e | e | ⟨o, e⟩
  · exact h.foot_lt e
  · rw [e]; exact h.terms.lt
  · exact (Array.getElem?_eq_some_iff.1 (h.sat _ e)).1
theorem Cz.all_ge {w : World} {base : Nat} {l : List Tm} {z : Zs} (h : Cz w base l z) {k : Nat} (hk : z.All k) : base ≤ k := by
  rcases hk with e | e | ⟨o, e⟩
  · exact h.foot_ge e
  · rw [e]; exact h.bt
  · exact (h.far _ e).1

/-- Others' changes leave it alone. -/
theorem Cz.keep {w w' : World} {base : Nat} {l : List Tm} {z : Zs} (h : Cz w base l z) {S : Nat → Prop} (K : Kept S w w') (hS : ∀ k, z.All k → ¬ S k) : Cz w' base l z := by
  have B : ∀ k, z.All k → w'.heap[k]? = w.heap[k]? := fun k hk => K.block k (h.all_lt hk) (hS k hk)
  obtain ⟨D, d1, d2, d3⟩ := h.known
  refine ⟨h.cls.of_block (B _ (.inl (.inl rfl))), h.sets.other K (hS _ (.inl (.inr (.inl (.inl rfl))))) (hS _ (.inl (.inr (.inl (.inr (.inl rfl)))))) (fun k hk => hS k (.inl (.inr (.inl (.inr (.inr hk)))))), h.terms.of_block (B _ (.inr (.inl rfl))), h.uses.of_block (B _ (.inl (.inr (.inr (.inl rfl))))),
    ⟨D, mapIs_block d1 (B _ (.inl (.inr (.inr (.inr (.inl rfl)))))), d2, d3⟩, ownsRow_block h.back (fun k hk => B k (.inl (.inr (.inr (.inr (.inr hk)))))), fun x hx => (B x.1 (.inr (.inr ⟨x.2, hx⟩))).trans (h.sat x hx), h.far, h.argsAt, h.usesAt, h.bd, h.oks, h.len, h.bp, h.bt, h.bu, h.bm⟩
theorem Cz.kept0 {w w' : World} {base : Nat} {l : List Tm} {z : Zs} (h : Cz w base l z) (K : Kept0 w w') : Cz w' base l z := h.keep K (fun _ _ e => e)
theorem Cz.drewN {w : World} {base : Nat} {l : List Tm} {z : Zs} (h : Cz w base l z) (m : Nat) : Cz (w.drewN m) base l z := h.kept0 ((Kept.refl _ w).drewN m)
theorem Cz.drew {w : World} {base : Nat} {l : List Tm} {z : Zs} (h : Cz w base l z) : Cz w.drew base l z := h.kept0 (Kept.refl _ w).drew

theorem Cz.k0 {w : World} {base : Nat} {l : List Tm} {z : Zs} (h : Cz w base l z) : w.cell? ⟨z.pk, 0, none⟩ = some (.pointer (some ⟨z.ps, 0, none⟩)) := h.cls.cell (i := 0) (by omega)
theorem Cz.k1 {w : World} {base : Nat} {l : List Tm} {z : Zs} (h : Cz w base l z) : w.cell? ⟨z.pk, 1, none⟩ = some (.slice (some ⟨z.tb, 0, none⟩) l.length l.length) := h.cls.cell (i := 1) (by omega)
theorem Cz.k2 {w : World} {base : Nat} {l : List Tm} {z : Zs} (h : Cz w base l z) : w.cell? ⟨z.pk, 2, none⟩ = some (.slice (some ⟨z.ub, 0, none⟩) l.length l.length) := h.cls.cell (i := 2) (by omega)
theorem Cz.k3 {w : World} {base : Nat} {l : List Tm} {z : Zs} (h : Cz w base l z) : w.cell? ⟨z.pk, 3, none⟩ = some (.map (some z.mb)) := h.cls.cell (i := 3) (by omega)
theorem Cz.k4 {w : World} {base : Nat} {l : List Tm} {z : Zs} (h : Cz w base l z) : w.cell? ⟨z.pk, 4, none⟩ = some z.bv := h.cls.cell (i := 4) (by omega)
theorem Cz.t0 {w : World} {base : Nat} {l : List Tm} {z : Zs} (h : Cz w base l z) {n : Nat} {t : Tm} (ht : l[n]? = some t) : w.cell? ⟨z.tb, n * 2, none⟩ = some (.string t.name) := by
  have hn := (List.getElem?_eq_some_iff.1 ht).1
  rw [h.terms.cell (i := n * 2) (by omega)]
  simp [termC, ht]
theorem Cz.t1 {w : World} {base : Nat} {l : List Tm} {z : Zs} (h : Cz w base l z) {n : Nat} {t : Tm} (ht : l[n]? = some t) : w.cell? ⟨z.tb, n * 2 + 1, none⟩ = some (z.av n) := by
  have hn := (List.getElem?_eq_some_iff.1 ht).1
  rw [h.terms.cell (i := n * 2 + 1) (by omega)]
  have h1 : (n * 2 + 1) % 2 = 1 := by omega
  have h2 : (n * 2 + 1) / 2 = n := by omega
  simp [termC, h1, h2]
theorem Cz.u {w : World} {base : Nat} {l : List Tm} {z : Zs} (h : Cz w base l z) {n : Nat} (hn : n < l.length) : w.cell? ⟨z.ub, n, none⟩ = some (z.uv n) := h.uses.cell (by omega)
theorem Cz.ok {w : World} {base : Nat} {l : List Tm} {z : Zs} (h : Cz w base l z) : Uf.Ok l.length z.g z.t.length := h.sets.ok

/-- The least term of a class. -/
theorem Cz.least {w : World} {base : Nat} {l : List Tm} {z : Zs} (h : Cz w base l z) {a : Nat} (ha : a < l.length) :
    Calls Try.prog 27 #[.pointer (some ⟨z.ps, 0, none⟩), .int .i64 (a : Int)] w fun e w' => e = .returned (.int .i64 (z.g.lo a : Int)) ∧ ∃ m, w' = w.drewN m := by
  have := Least_in w base z.ps z.nb l.length z.g z.jv _ h.sets.lies _ h.ok a
  rw [inB_nat ha, if_pos rfl, Int.toNat_natCast] at this
  exact this
