/- A row of numbers of one's own. Package logic: a map of how often each Pair came. Package logic: what makes clauses, in memory. Package logic: what makes clauses: say, both. Package term: what takeOut leaves, plainly. Package term: clear of the end of a row of entries. Package term: takeOut. Package decide: a problem in memory: its maps. Package decide: steps as keys. Package decide: sets of steps and of pairs. -/
import Derived.Test.YtlehlgipbhfioaaGreatP03
import Derived.Test.YtlehlgipbhfioaaGreatP11
import Derived.Test.YtlehlgipbhfioaaGreatP00
import Derived.WideKeyEntry
import Derived.Maps.AppendAt
import Derived.Lib.SliceRun
import Derived.Test.YtlehlgipbhfioaaGreatP12
import Derived.Maps.OwnSet
namespace Go.Proofs.YtlehlgipbhfioaaGreat
open Go.RowKit

/-- A row of numbers of one's own. -/
def Rw (W : World) (g : Nat) (vs : List Int) : Prop := ∃ N F, vs.length ≤ N ∧ W.rowIs g 3 N F ∧ ∀ (j : Nat) (c : Int), vs[j]? = some c → F j = .int .i64 c
theorem Rw.cls {W : World} {g : Nat} {vs : List Int} (h : Rw W g vs) : ClsAt W (some ⟨g, 0, none⟩) vs := by
  obtain ⟨N, F, h1, h2, h3⟩ := h
  refine Or.inr ⟨g, 0, rfl, fun j c hj => ?_⟩
  have hlt := (List.getElem?_eq_some_iff.1 hj).1
  rw [Nat.zero_add, h2.cell (i := j) (by omega), h3 j c hj]
theorem Rw.at {W : World} {g : Nat} {vs : List Int} (h : Rw W g vs) {j : Nat} {c : Int} (hj : vs[j]? = some c) : W.cell? ⟨g, j, none⟩ = some (.int .i64 c) ∧ W.frozen? ⟨g, j, none⟩ = false := by
  obtain ⟨N, F, h1, h2, h3⟩ := h
  have hlt := (List.getElem?_eq_some_iff.1 hj).1
  exact ⟨by rw [h2.cell (i := j) (by omega), h3 j c hj], h2.frozen j⟩
theorem Rw.set {W : World} {g : Nat} {vs : List Int} (h : Rw W g vs) (i : Nat) (c : Int) : Rw (W.setCell ⟨g, i, none⟩ (.int .i64 c)) g (vs.set i c) := by
  obtain ⟨N, F, h1, h2, h3⟩ := h
  refine ⟨N, _, by rw [List.length_set]; exact h1, h2.set i _, fun j d hj => ?_⟩
  by_cases e : j = i
  · subst e
    rw [if_pos rfl]
    have hl := (List.getElem?_eq_some_iff.1 hj).1
    rw [List.length_set] at hl
    rw [List.getElem?_set_self hl] at hj
    cases hj
    rfl
  · rw [if_neg e]
    rw [List.getElem?_set_ne (fun x => e x.symm)] at hj
    exact h3 j d hj
theorem Rw.lt {W : World} {g : Nat} {vs : List Int} (h : Rw W g vs) : g < W.heap.size := by
  obtain ⟨N, F, h1, h2, h3⟩ := h
  exact h2.lt
theorem Rw.block {W W' : World} {g : Nat} {vs : List Int} (h : Rw W g vs) (hB : W'.heap[g]? = W.heap[g]?) : Rw W' g vs := by
  obtain ⟨N, F, h1, h2, h3⟩ := h
  exact ⟨N, F, h1, h2.of_block hB, h3⟩

end Go.Proofs.YtlehlgipbhfioaaGreat

namespace Go.Proofs.YtlehlgipbhfioaaGreat
open Go.RowKit Go.Maps Go.ChangeShapes Go.WideShapes Go.MapKept Go.ChangeMaps Go.WideElems

theorem pRow : (34 : TypeId) < Tryz.prog.types.size := of_decide_eq_true (by kernel_rfl)
theorem pCells : Tryz.prog.cellsOf 34 = 2 := by kernel_rfl
theorem pKeyType : Tryz.prog.keyType 34 = true := by kernel_rfl
theorem pKeyAt : Tryz.prog.keyTypeAt 3 34 = true := by kernel_rfl
theorem pKl : WideMaps.KeyLaw Tryz.prog 34 := deep_law_laid tLaid (m := 3) (by omega) pRow pKeyAt (by rw [Tryz.underlying34])
theorem pLaw : Keyed Tryz.prog 34 := Keyed.of_law pKl

def P64 (p : Int × Int) : Prop := R64 p.1 ∧ R64 p.2
def pairV (p : Int × Int) : Value := .agg #[.int .i64 p.1, .int .i64 p.2]

theorem pair_formed (p : Int × Int) : (pairV p).formed Tryz.prog 34 = true := by simp [pairV, Value.formed, Tryz.underlying34, pCells]
theorem pair_key (p : Int × Int) (h : P64 p) : ∃ kl, keyOf Tryz.prog 34 (pairV p) = some kl := by
  have g0 : (Lit.int .i64 p.1).wf = true := WalkArith.wf_i64 h.1
  have g1 : (Lit.int .i64 p.2).wf = true := WalkArith.wf_i64 h.2
  unfold keyOf
  rw [Tryz.underlying34]
  simp only [pKeyType, pair_formed]
  obtain ⟨m, hm⟩ : ∃ m, Tryz.prog.types.size + 1 = m + 3 := ⟨Tryz.prog.types.size - 2, by have h9 := pRow; generalize Tryz.prog.types.size = z at h9 ⊢; exact (by have h8 : 3 ≤ z := Nat.le_trans (by decide) (Nat.le_of_lt h9); omega)⟩
  rw [hm]
  simp [Program.keyLits, Tryz.underlying34, Tryz.underlying3, pCells, tCellsI, pairV, Value.cells, g0, g1]

noncomputable def pkey (p : Int × Int) : Lit := (keyOf Tryz.prog 34 (pairV p)).getD (.bool false)
theorem pkey_of {p : Int × Int} (h : P64 p) : keyOf Tryz.prog 34 (pairV p) = some (pkey p) := by
  obtain ⟨kl, hk⟩ := pair_key p h
  simp [pkey, hk]
theorem pairV_inj {p q : Int × Int} (h : pairV p = pairV q) : p = q := by
  obtain ⟨a, b⟩ := p
  obtain ⟨c, d⟩ := q
  simp [pairV] at h
  rw [h.1, h.2]
theorem pkey_inj {p q : Int × Int} (hp : P64 p) (hq : P64 q) (h : pkey p = pkey q) : p = q :=
  pairV_inj (pLaw.inj (pkey_of hp) (by rw [h]; exact pkey_of hq))
theorem pkey_lit {p : Int × Int} (hp : P64 p) : ∃ k, pkey p = k ∧ WideAt.IsKeyLit k := by
  have h := pkey_of hp
  generalize pkey p = k at h
  exact ⟨k, rfl, pLaw.key h⟩

/-- The map at mb says how often each came in l. -/
def CntIs (W : World) (mb : Nat) (l : List (Int × Int)) : Prop :=
  ∃ D, mapIs W 34 mb D ∧ Maps.size D ≤ l.length ∧ ∀ p, P64 p → D.atKey (pkey p) (.lit (.int .i64 0)) = .lit (.int .i64 (l.count p : Int))

theorem CntIs.new (W : World) : CntIs (W.alloc (.map #[] 0)) W.heap.size [] := by
  refine ⟨_, mapIs_of (World.ownsMap_made W Tryz.prog 34 (plainElem Tryz.prog 3)), ?_, fun p hp => ?_⟩
  · exact Nat.le_refl _
  · rfl
theorem CntIs.keep {W W' : World} {mb : Nat} {l : List (Int × Int)} (h : CntIs W mb l) (hb : W'.heap[mb]? = W.heap[mb]?) : CntIs W' mb l := by
  obtain ⟨D, h1, h2, h3⟩ := h
  obtain ⟨es, clock, e1, e2, e3, e4⟩ := h1
  exact ⟨D, ⟨es, clock, hb.trans e1, e2, e3, e4⟩, h2, h3⟩
theorem CntIs.lt {W : World} {mb : Nat} {l : List (Int × Int)} (h : CntIs W mb l) : ∃ es clock, W.heap[mb]? = some (Obj.map es clock) := by
  obtain ⟨D, ⟨es, clock, e1, _⟩, _⟩ := h
  exact ⟨es, clock, e1⟩

/-- 'counts[p]'. -/
theorem CntIs.look {W : World} {mb : Nat} {l : List (Int × Int)} (h : CntIs W mb l) {p : Int × Int} (hp : P64 p) :
    (Instr.lookup 113 (.map (some mb)) (pairV p) false).run Tryz.prog W = .ok (.int .i64 (l.count p : Int)) W := by
  obtain ⟨D, h1, h2, h3⟩ := h
  obtain ⟨c, hrun, hat, _⟩ := World.ownsMap.lookup_int h1 pLaw Tryz.underlying113 Tryz.underlying3 (zeroI W) (pkey_of hp)
  rw [h3 p hp] at hat
  simp at hat
  rw [hrun, hat]

theorem setBlock_self {w : World} {b : Nat} {o : Obj} (hb : w.heap[b]? = some o) : setBlock w b o = w := by
  have e : w.heap.setIfInBounds b o = w.heap := by
    apply Array.ext_getElem?
    intro i
    rw [Array.getElem?_setIfInBounds]
    split
    · rename_i h
      subst h
      rw [hb, if_pos (Array.getElem?_eq_some_iff.1 hb).1]
    · rfl
  unfold setBlock
  rw [e]
theorem key_unique {l : List MapEntry} (h : (l.map (fun x => x.key)).Nodup) {x y : MapEntry} (hx : x ∈ l) (hy : y ∈ l) (e : x.key = y.key) : x = y := by
  induction l with
  | nil => simp at hx
  | cons a r ih =>
    rw [List.map_cons, List.nodup_cons] at h
    rcases List.mem_cons.1 hx with ex | ex <;> rcases List.mem_cons.1 hy with ey | ey
    · rw [ex, ey]
    · exact absurd (List.mem_map.2 ⟨y, ey, by rw [← e, ex]⟩) h.1
    · exact absurd (List.mem_map.2 ⟨x, ex, by rw [e, ey]⟩) h.1
    · exact ih h.2 ex ey

/-- Behind the making of an entry one finds what it holds. -/
theorem entry_look {H : Type} {P : Program} {w Wa : World} {t k e : TypeId} {R : Value → Option (DataW H × List MemPlace)} {b : Nat} {es : Array MapEntry} {clock : Nat} (K : WideMaps.KeyLaw P k) (ht : P.underlying t = some (.map k e)) {z : Value} (hz : ∀ u : World, (zeroValue e).run P u = .ok z u) (hb : w.heap[b]? = some (.map es clock)) (F : Fit P k R es clock)
    {key : Value} {kl : Lit} (hkey : keyOf P k key = some kl) {v0 st : Value} (hrun : (Instr.mapEntry t (.map (some b)) key).run P w = .ok (.tuple #[v0, st]) Wa) : (Instr.lookup t (.map (some b)) key false).run P Wa = .ok v0 Wa := by
  rcases K.find w hkey es.toList F.keys with ⟨h1, h2⟩ | ⟨j, e0, h1, h2, h3⟩
  · have hr : (Instr.mapEntry t (.map (some b)) key).run P w = .ok (.tuple #[z, goInt clock]) (setBlock w b (.map (es.push ⟨key, z, clock⟩) (clock + 1))) := by
      simp [Instr.mapEntry, run_underlying ht, MapKept.run_getObj_map hb, K.check w false hkey, h1, hz, MapKept.run_setObj_map _ hb, Result.andThen, setBlock]
    rw [hrun] at hr
    simp only [Result.ok.injEq, Value.tuple.injEq, Array.mk.injEq, List.cons.injEq] at hr
    obtain ⟨⟨rfl, _⟩, rfl⟩ := hr
    have hb' := heap_setBlock_same (w := w) hb (.map (es.push ⟨key, v0, clock⟩) (clock + 1))
    rcases K.find (setBlock w b (.map (es.push ⟨key, v0, clock⟩) (clock + 1))) hkey (es.push ⟨key, v0, clock⟩).toList (by
      intro x hx
      simp only [Array.toList_push, List.mem_append, List.mem_singleton] at hx
      rcases hx with hx | rfl
      · exact F.keys x hx
      · exact ⟨kl, hkey⟩) with ⟨g1, g2⟩ | ⟨j, e1, g1, g2, g3⟩
    · exact absurd rfl (g2 ⟨key, v0, clock⟩ (by simp))
    · have hm := List.mem_of_getElem? g2
      simp only [Array.toList_push, List.mem_append, List.mem_singleton] at hm
      have hv : e1.val = v0 := by
        rcases hm with hm | rfl
        · exact absurd g3 (h2 e1 hm)
        · rfl
      rw [hv] at g1
      simp [Instr.lookup, run_underlying ht, MapKept.run_getObj_map hb', K.check _ _ hkey, Result.andThen]
      simp at g1
      rw [g1]
      rfl
  · have hj : es[j]? = some e0 := by simpa using h2
    have hsame : es.modify j (fun e => { e with key := key }) = es := by
      apply Array.ext'
      rw [Array.toList_modify, modify_eq_set _ _ _ _ h2]
      have : ({ e0 with key := key } : MapEntry) = e0 := by rw [← h3]
      rw [this]
      exact set_self _ _ _ h2
    have hr : (Instr.mapEntry t (.map (some b)) key).run P w = .ok (.tuple #[e0.val, goInt e0.born]) (setBlock w b (.map es clock)) := by
      simp [Instr.mapEntry, run_underlying ht, MapKept.run_getObj_map hb, K.check w false hkey, h1, hj, h3, K.stays w hkey, hsame, MapKept.run_setObj_map _ hb, Result.andThen, setBlock]
    rw [hrun] at hr
    simp only [Result.ok.injEq, Value.tuple.injEq, Array.mk.injEq, List.cons.injEq] at hr
    obtain ⟨⟨rfl, _⟩, rfl⟩ := hr
    rw [setBlock_self hb]
    simp [Instr.lookup, run_underlying ht, MapKept.run_getObj_map hb, K.check _ _ hkey, h1, Result.andThen]

/-- 'counts[p]++': the entry, and what is stored there. -/
theorem CntIs.inc {W : World} {mb : Nat} {l : List (Int × Int)} (h : CntIs W mb l) {p : Int × Int} (hp : P64 p) (hl : l.length < 140737488355328) :
    ∃ (v0 : Value) (st : Nat) (W1 W2 : World), (Instr.mapEntry 113 (.map (some mb)) (pairV p)).run Tryz.prog W = .ok (.tuple #[v0, goInt st]) W1 ∧
      (Instr.entryStore 113 (.map (some mb)) (goInt st) (.int .i64 ((l.count p + 1 : Nat) : Int))).run Tryz.prog W1 = .ok () W2 ∧ CntIs W2 mb (l ++ [p]) ∧ Kept1 mb W W2 ∧ (Instr.lookup 113 (.map (some mb)) (pairV p) false).run Tryz.prog W1 = .ok (.int .i64 (l.count p : Int)) W1 := by
  have hlk := h.look hp
  obtain ⟨D, h1, h2, h3⟩ := h
  have hc : l.count p ≤ l.length := List.count_le_length
  obtain ⟨w', hr, ho, hturn⟩ := World.ownsMap.store h1 pLaw Tryz.underlying113 (by unfold maxLen; omega) (pkey_of hp) (plainElem_int (H := Unit) Tryz.underlying3 (WalkArith.wf_i64 (n := ((l.count p + 1 : Nat) : Int)) (by omega)))
  have tidy := World.ownsMap.tidy h1 pLaw
  obtain ⟨es, clock, hb, F, _, _⟩ := h1
  obtain ⟨v0, st, es1, clock1, hrun, hv0, hst⟩ := entry_then_store pKl Tryz.underlying113 zeroI hb F (pkey_of hp)
  obtain ⟨es', clock', hs1, hs2⟩ := hst (setBlock W mb (.map es1 clock1)) (.int .i64 ((l.count p + 1 : Nat) : Int)) (heap_setBlock_same hb _)
  have e : setBlock (setBlock W mb (.map es1 clock1)) mb (.map es' clock') = w' := by
    rw [hr] at hs2
    simp only [Result.ok.injEq, true_and] at hs2
    rw [hs2]
    simp [setBlock]
  refine ⟨v0, st, _, w', hrun, by rw [hs1, e], ⟨_, mapIs_of ho, ?_, fun q hq => ?_⟩, Kept1.of_grown hturn.grown, ?_⟩
  · rw [size_put tidy]
    simp only [List.length_append, List.length_singleton]
    split <;> omega
  · by_cases e : q = p
    · subst e
      obtain ⟨kk, e, hk⟩ := pkey_lit hq
      rw [e, atKey_put_same tidy.isMap hk, List.count_append]
      simp
    · rw [atKey_put_other (fun x => e (pkey_inj hq hp x)), h3 q hq, List.count_append]
      have : List.count q [p] = 0 := List.count_eq_zero.2 (by simpa using e)
      rw [this]
      simp
  · have hl2 := entry_look pKl Tryz.underlying113 zeroI hb F (pkey_of hp) hrun
    rw [hl2]
    have : v0 = .int .i64 (l.count p : Int) := by
      rcases Maps.fit_look false pLaw Tryz.underlying113 (zeroI W) hb F (pkey_of hp) with ⟨g1, g2, _⟩ | ⟨e0, y, g0, g1, g2, _⟩
      · rw [g1] at hlk
        simp only [Bool.false_eq_true, if_false, Result.ok.injEq, and_true] at hlk
        rcases hv0 with ⟨e1, m1, m2, m3⟩ | ⟨m1, m2⟩
        · exact absurd m2 (g2 e1 m1)
        · rw [m2, hlk]
      · rw [g2] at hlk
        simp only [Bool.false_eq_true, if_false, Result.ok.injEq, and_true] at hlk
        rcases hv0 with ⟨e1, m1, m2, m3⟩ | ⟨m1, m2⟩
        · obtain ⟨s1, s2, s3⟩ := F.stamped
          have : e1 = e0 := key_unique s3 m1 g0 (m2.trans g1.symm)
          rw [m3, this, hlk]
        · exact absurd g1 (m1 e0 g0)
    rw [this]

end Go.Proofs.YtlehlgipbhfioaaGreat

namespace Go.Proofs.YtlehlgipbhfioaaGreat
open Go.RowKit Go.Maps Go.ChangeShapes Go.WideShapes Go.MapKept Go.ChangeMaps Go.WideElems

/-- The number of a Pair: its place, from 1; 0 if there is none. -/
def numP (ps : List (Int × Int)) (p : Int × Int) : Nat := if p ∈ ps then ps.idxOf p + 1 else 0
theorem numP_snoc {ps : List (Int × Int)} {p : Int × Int} (h : p ∉ ps) (q : Int × Int) : numP (ps ++ [p]) q = if q = p then ps.length + 1 else numP ps q := by
  unfold numP
  by_cases e : q = p
  · subst e
    rw [if_pos (by simp), if_pos rfl, List.idxOf_append, if_neg h]
    simp
  · rw [if_neg e]
    by_cases hq : q ∈ ps
    · rw [if_pos (by simp [hq]), if_pos hq, List.idxOf_append, if_pos hq]
    · rw [if_neg (by simp [hq, e]), if_neg hq]
theorem numP_le (ps : List (Int × Int)) (p : Int × Int) : numP ps p ≤ ps.length := by
  unfold numP
  split
  · next h => exact List.idxOf_lt_length_of_mem h
  · omega

/-- The map at ab says each Pair's number. -/
def NumIs (W : World) (ab : Nat) (ps : List (Int × Int)) : Prop :=
  ∃ D, mapIs W 34 ab D ∧ Maps.size D ≤ ps.length ∧ ∀ p, P64 p → D.atKey (pkey p) (.lit (.int .i64 0)) = .lit (.int .i64 (numP ps p : Int))
theorem NumIs.new (W : World) : NumIs (W.alloc (.map #[] 0)) W.heap.size [] := by
  refine ⟨_, mapIs_of (World.ownsMap_made W Tryz.prog 34 (plainElem Tryz.prog 3)), ?_, fun p hp => ?_⟩
  · exact Nat.le_refl _
  · rfl
theorem NumIs.keep {W W' : World} {mb : Nat} {l : List (Int × Int)} (h : NumIs W mb l) (hb : W'.heap[mb]? = W.heap[mb]?) : NumIs W' mb l := by
  obtain ⟨D, h1, h2, h3⟩ := h
  obtain ⟨es, clock, e1, e2, e3, e4⟩ := h1
  exact ⟨D, ⟨es, clock, hb.trans e1, e2, e3, e4⟩, h2, h3⟩
theorem NumIs.lt {W : World} {mb : Nat} {l : List (Int × Int)} (h : NumIs W mb l) : ∃ es clock, W.heap[mb]? = some (Obj.map es clock) := by
  obtain ⟨D, ⟨es, clock, e1, _⟩, _⟩ := h
  exact ⟨es, clock, e1⟩
/-- 'atoms[p]'. -/
theorem NumIs.look {W : World} {mb : Nat} {l : List (Int × Int)} (h : NumIs W mb l) {p : Int × Int} (hp : P64 p) :
    (Instr.lookup 113 (.map (some mb)) (pairV p) false).run Tryz.prog W = .ok (.int .i64 (numP l p : Int)) W := by
  obtain ⟨D, h1, h2, h3⟩ := h
  obtain ⟨c, hrun, hat, _⟩ := World.ownsMap.lookup_int h1 pLaw Tryz.underlying113 Tryz.underlying3 (zeroI W) (pkey_of hp)
  rw [h3 p hp] at hat
  simp at hat
  rw [hrun, hat]
/-- 'atoms[p] = n'. -/
theorem NumIs.store {W : World} {mb : Nat} {l : List (Int × Int)} (h : NumIs W mb l) {p : Int × Int} (hp : P64 p) (hn : p ∉ l) (hl : l.length < 140737488355328) :
    ∃ W2, (Instr.mapUpdate 113 (.map (some mb)) (pairV p) (.int .i64 ((l.length + 1 : Nat) : Int))).run Tryz.prog W = .ok () W2 ∧ NumIs W2 mb (l ++ [p]) ∧ Kept1 mb W W2 := by
  obtain ⟨D, h1, h2, h3⟩ := h
  obtain ⟨w', hr, ho, hturn⟩ := World.ownsMap.store h1 pLaw Tryz.underlying113 (by unfold maxLen; omega) (pkey_of hp) (plainElem_int (H := Unit) Tryz.underlying3 (WalkArith.wf_i64 (n := ((l.length + 1 : Nat) : Int)) (by omega)))
  have tidy := World.ownsMap.tidy h1 pLaw
  refine ⟨w', hr, ⟨_, mapIs_of ho, ?_, fun q hq => ?_⟩, Kept1.of_grown hturn.grown⟩
  · rw [size_put tidy]
    simp only [List.length_append, List.length_singleton]
    split <;> omega
  · rw [numP_snoc hn]
    by_cases e : q = p
    · subst e
      obtain ⟨kk, e, hk⟩ := pkey_lit hq
      rw [e, atKey_put_same tidy.isMap hk]
      simp
    · rw [atKey_put_other (fun x => e (pkey_inj hq hp x)), h3 q hq, if_neg e]

abbrev Sc := Nat × List (List Int)
def mkC (ab : Nat) (n : Nat) (rv : Value) : Nat → Value := fun j => if j = 0 then .map (some ab) else if j = 1 then .int .i64 (n : Int) else rv

/-- No two of these lie in one block. -/
def RsDst (rs : List Value) : Prop := ∀ (i j g n m c c' : Nat), rs[i]? = some (.slice (some ⟨g, 0, none⟩) n c) → rs[j]? = some (.slice (some ⟨g, 0, none⟩) m c') → i = j

/-- A maker in the blocks S. -/
structure Mk (S : Nat → Prop) (W : World) (mb ab : Nat) (ps : List (Int × Int)) (rv : Value) (st : Sc) : Prop where
  lt : ∀ k, S k → k < W.heap.size
  smb : S mb
  sab : S ab
  srv : ∀ k, rv.ownBlock = some k → S k
  cells : W.rowIs mb 226 3 (mkC ab st.1 rv)
  map : NumIs W ab ps
  rows : ∃ rs : List Value, W.ownsRow 0 39 1 rv rs.length rs ∧ (rs.length = st.2.length ∧ RsDst rs) ∧ ∀ (i : Nat) (c : List Int), st.2[i]? = some c → ∃ g cap, rs[i]? = some (.slice (some ⟨g, 0, none⟩) c.length cap) ∧ S g ∧ Rw W g c

theorem ownsRow_block {W W' : World} {base size k : Nat} {ty : TypeId} {v : Value} {xs : List Value} (h : W.ownsRow base ty size v k xs) (hb : ∀ b, v.ownBlock = some b → W'.heap[b]? = W.heap[b]?) : W'.ownsRow base ty size v k xs := by
  refine ⟨h.1, ?_⟩
  rcases h.2 with e | ⟨g, cap, cur, e, e1, e2, e3⟩
  · exact Or.inl e
  · exact Or.inr ⟨g, cap, cur, e, e1, (hb g (by rw [e]; rfl)).trans e2, e3⟩
theorem Mk.keep {S : Nat → Prop} {W W' : World} {mb ab : Nat} {ps : List (Int × Int)} {rv : Value} {st : Sc} (h : Mk S W mb ab ps rv st) (hs : W.heap.size ≤ W'.heap.size) (hb : ∀ k, S k → W'.heap[k]? = W.heap[k]?) : Mk S W' mb ab ps rv st := by
  obtain ⟨rs, h1, h2, h3⟩ := h.rows
  refine ⟨fun k hk => Nat.lt_of_lt_of_le (h.lt k hk) hs, h.smb, h.sab, h.srv, h.cells.of_block (hb _ h.smb), h.map.keep (hb _ h.sab), rs, ownsRow_block h1 (fun b e => hb b (h.srv b e)), h2, fun i c hi => ?_⟩
  obtain ⟨g, cap, q1, q2, q3⟩ := h3 i c hi
  exact ⟨g, cap, q1, q2, q3.block (hb g q2)⟩
theorem Mk.wider {S S' : Nat → Prop} {W : World} {mb ab : Nat} {ps : List (Int × Int)} {rv : Value} {st : Sc} (h : Mk S W mb ab ps rv st) (hS : ∀ k, S k → S' k) (hl : ∀ k, S' k → k < W.heap.size) : Mk S' W mb ab ps rv st := by
  obtain ⟨rs, h1, h2, h3⟩ := h.rows
  refine ⟨hl, hS _ h.smb, hS _ h.sab, fun k e => hS _ (h.srv k e), h.cells, h.map, rs, h1, h2, fun i c hi => ?_⟩
  obtain ⟨g, cap, q1, q2, q3⟩ := h3 i c hi
  exact ⟨g, cap, q1, hS _ q2, q3⟩

/-- What a maker's step leaves: other blocks than its own and its row of clauses stay. -/
structure MadeX (S : Nat → Prop) (w : World) (rv : Value) (S' : Nat → Prop) (w' : World) (rv' : Value) (mb ab : Nat) (ps : List (Int × Int)) (st' : Sc) : Prop where
  is : Mk S' w' mb ab ps rv' st'
  new : ∀ k, S' k → S k ∨ w.heap.size ≤ k
  at_ : rv'.ownBlock = rv.ownBlock ∨ ∀ k, rv'.ownBlock = some k → w.heap.size ≤ k
  kept : Kept (fun k => k = mb ∨ rv.ownBlock = some k) w w'
def Made (S : Nat → Prop) (w w' : World) (mb ab : Nat) (ps : List (Int × Int)) (rv : Value) (st' : Sc) : Prop := ∃ S' rv', MadeX S w rv S' w' rv' mb ab ps st'

theorem MadeX.trans {S S1 S2 : Nat → Prop} {w w1 w2 : World} {mb ab : Nat} {ps : List (Int × Int)} {rv rv1 rv2 : Value} {st1 st2 : Sc} (h1 : MadeX S w rv S1 w1 rv1 mb ab ps st1) (h2 : MadeX S1 w1 rv1 S2 w2 rv2 mb ab ps st2) : MadeX S w rv S2 w2 rv2 mb ab ps st2 := by
  have z1 := h1.kept.size
  refine ⟨h2.is, fun k hk => ?_, ?_, ?_⟩
  · rcases h2.new k hk with e | e
    · exact h1.new k e
    · exact Or.inr (by omega)
  · rcases h2.at_ with e | e
    · rw [e]; exact h1.at_
    · exact Or.inr (fun k hk => by have := e k hk; omega)
  · refine ⟨h2.kept.os.trans h1.kept.os, h2.kept.tape.trans h1.kept.tape, h2.kept.output.trans h1.kept.output, Nat.le_trans z1 h2.kept.size, fun k hk hn => ?_⟩
    refine (h2.kept.block k (Nat.lt_of_lt_of_le hk z1) ?_).trans (h1.kept.block k hk hn)
    rintro (e | e)
    · exact hn (Or.inl e)
    · rcases h1.at_ with e1 | e1
      · exact hn (Or.inr (by rw [← e1]; exact e))
      · have := e1 k e; omega

theorem infoInts : (Tryz.prog.info? 39).map (fun i => (i.zero, i.size, i.bytes)) = some (some (.slice none 0 0), 1, 24) := by kernel_rfl

set_option maxRecDepth 100000 in
set_option maxHeartbeats 2000000 in
theorem variable_in (w : World) (S : Nat → Prop) (mb ab : Nat) (ps : List (Int × Int)) (rv : Value) (st : Sc) (h : Mk S w mb ab ps rv st) (hs : st.1 ≤ 1099511627776) :
    Calls Tryz.prog 117 #[.pointer (some ⟨mb, 0, none⟩)] w fun e w' => e = .returned (.int .i64 ((st.1 + 1 : Nat) : Int)) ∧ Mk S w' mb ab ps rv (st.1 + 1, st.2) ∧ Kept (fun k => k = mb) w w' := by
  have c1 : w.cell? ⟨mb, 1, none⟩ = some (.int .i64 (st.1 : Int)) := h.cells.cell (i := 1) (by omega)
  have f1 := h.cells.frozen 1
  have HM : Hid (Mk S (w.setCell ⟨mb, 1, none⟩ (.int .i64 ((st.1 : Int) + 1))) mb ab ps rv (st.1 + 1, st.2) ∧ Kept (fun k => k = mb) w (w.setCell ⟨mb, 1, none⟩ (.int .i64 ((st.1 : Int) + 1)))) := by
    have K : Kept (fun k => k = mb) w (w.setCell ⟨mb, 1, none⟩ (.int .i64 ((st.1 : Int) + 1))) := Kept.setCell (S := fun k => k = mb) (Kept.refl _ w) (p := ⟨mb, 1, none⟩) rfl _
    obtain ⟨rs, h1, h2, h3⟩ := h.rows
    have nb : ∀ k, k < w.heap.size → k ≠ mb → (w.setCell ⟨mb, 1, none⟩ (.int .i64 ((st.1 : Int) + 1))).heap[k]? = w.heap[k]? := fun k hk hne => K.block k hk hne
    refine ⟨⟨fun k hk => Nat.lt_of_lt_of_le (h.lt k hk) K.size, h.smb, h.sab, h.srv, ?_, h.map.keep (nb _ (h.lt _ h.sab) ?_), rs, ownsRow_block h1 (fun b e => nb b (h.lt _ (h.srv b e)) ?_), h2, fun i c hi => ?_⟩, K⟩
    · refine (h.cells.set 1 _).congr (fun j hj => ?_)
      unfold mkC
      by_cases e : j = 1
      · subst e; simp
      · simp [e]
    · rintro rfl
      obtain ⟨es, ck, e⟩ := h.map.lt
      obtain ⟨c, hc, _⟩ := h.cells
      rw [e] at hc
      cases hc
    · rintro rfl
      exact rowIs_type h.cells (by decide) h1 e
    · obtain ⟨g, cap, q1, q2, q3⟩ := h3 i c hi
      refine ⟨g, cap, q1, q2, q3.block (nb g (h.lt _ q2) ?_)⟩
      rintro rfl
      obtain ⟨N, F, _, ⟨c1, hc1, _⟩, _⟩ := q3
      obtain ⟨c2, hc2, _⟩ := h.cells
      rw [hc1] at hc2
      injection hc2 with hc2
      injection hc2 with _ hc2
      exact absurd hc2 (by decide)
  have d1 : IntKind.i64.wrap ((st.1 : Int) + 1) = (st.1 : Int) + 1 := by rw [IntKind.wrap_i64]; omega
  clear h
  go_enter Tryz.func117, Tryz.ntmps117
  go_wp2_with fail
  go_ret
  exact ⟨by simp, HM.out⟩

end Go.Proofs.YtlehlgipbhfioaaGreat

namespace Go.Proofs.YtlehlgipbhfioaaGreat
open Go.RowKit Go.Maps

theorem cell_oneV (w : World) (a : Value) (ty : TypeId) : ∀ j u, [a][j]? = some u → (w.alloc (.cells #[a] ty)).cell? ((⟨w.heap.size, 0, none⟩ : Addr).add j) = some u := by
  intro j u hj
  have hn := made_row w #[a] ty
  match j, hj with
  | 0, hj => simp at hj; subst hj; exact hn.cell (i := 0) (by simp)

theorem row_formM {w : World} {base : Nat} {e : TypeId} {size : Nat} {v : Value} {n : Nat} {xs : List Value} (h : w.ownsRow base e size v n xs) : ∃ a c, v = .slice a n c := by
  rcases h.2 with ⟨rfl, h0⟩ | ⟨b, cap, cur, rfl, _⟩
  · rw [h0]; exact ⟨none, 0, rfl⟩
  · exact ⟨_, cap, rfl⟩

/-- A clause more. -/
theorem Mk.said {S : Nat → Prop} {w w8 : World} {O : Obj} {mb ab : Nat} {ps : List (Int × Int)} {rv v8 : Value} {st : Sc} (h : Mk S w mb ab ps rv st) {rs : List Value} {g cap : Nat} {c : List Int} (hrs : (rs.length = st.2.length ∧ RsDst rs) ∧ ∀ (i : Nat) (c : List Int), st.2[i]? = some c → ∃ g cap, rs[i]? = some (.slice (some ⟨g, 0, none⟩) c.length cap) ∧ S g ∧ Rw w g c)
    (hg : Rw w g c) (hgS : ¬ S g) (hrow : w.ownsRow 0 39 1 rv rs.length rs) (hown : w8.ownsRow 0 39 1 v8 (rs.length + 1) (rs ++ [.slice (some ⟨g, 0, none⟩) c.length cap])) (hgrow : (w.alloc O).grownBy w8 rv.ownBlock) (hat : v8.ownBlock = rv.ownBlock ∨ v8.ownBlock = some (w.alloc O).heap.size) :
    Mk (fun k => S k ∨ k = g ∨ v8.ownBlock = some k) (w8.setCell ⟨mb, 2, none⟩ v8) mb ab ps v8 (st.1, st.2 ++ [c]) ∧ Kept (fun k => k = mb ∨ rv.ownBlock = some k) w (w8.setCell ⟨mb, 2, none⟩ v8) ∧ (v8.ownBlock = rv.ownBlock ∨ ∀ k, v8.ownBlock = some k → w.heap.size ≤ k) := by
  have hne : rv.ownBlock ≠ some mb := rowIs_type h.cells (by decide) hrow
  have K8 : Kept (fun k => k = mb ∨ rv.ownBlock = some k) w w8 := Kept.grown ((Kept.refl _ w).alloc O) hgrow (fun k e => Or.inr e)
  have hc8 : w8.rowIs mb 226 3 (mkC ab st.1 rv) := h.cells.of_block ((hgrow.block _ (by simp; have := h.cells.lt; omega) (fun e => hne e.symm)).trans (Below.heap_alloc w O _ h.cells.lt))
  have hne8 : v8.ownBlock ≠ some mb := rowIs_type hc8 (by decide) hown
  have K9 : Kept (fun k => k = mb ∨ rv.ownBlock = some k) w (w8.setCell ⟨mb, 2, none⟩ v8) := K8.setCell (p := ⟨mb, 2, none⟩) (Or.inl rfl) v8
  have nb : ∀ k, k < w.heap.size → k ≠ mb → rv.ownBlock ≠ some k → (w8.setCell ⟨mb, 2, none⟩ v8).heap[k]? = w.heap[k]? := fun k hk h1 h2 => K9.block k hk (by rintro (e | e); exact h1 e; exact h2 e)
  have rwk : ∀ {g : Nat} {c : List Int}, Rw w g c → Rw (w8.setCell ⟨mb, 2, none⟩ v8) g c := fun {g c} hr => by
    refine hr.block (nb g hr.lt ?_ ?_)
    · rintro rfl
      obtain ⟨N, F, _, ⟨c1, hc1, _⟩, _⟩ := hr
      obtain ⟨c2, hc2, _⟩ := h.cells
      rw [hc1] at hc2
      injection hc2 with hc2
      injection hc2 with _ hc2
      exact absurd hc2 (by decide)
    · obtain ⟨N, F, _, hr2, _⟩ := hr
      exact rowIs_type hr2 (by decide) hrow
  have hlt8 : ∀ k, v8.ownBlock = some k → k < w8.heap.size := fun k hk => by
    rcases hown.2 with ⟨e, _⟩ | ⟨g', cap', cur, e, e1, e2, _⟩
    · rw [e] at hk; simp [Value.ownBlock] at hk
    · rw [e] at hk
      simp [Value.ownBlock] at hk
      subst hk
      exact (Array.getElem?_eq_some_iff.1 e2).1
  have hsz : (w8.setCell ⟨mb, 2, none⟩ v8).heap.size = w8.heap.size := by simp [World.setCell]
  refine ⟨⟨fun k hk => ?_, Or.inl h.smb, Or.inl h.sab, fun k e => Or.inr (Or.inr e), ?_, ?_, rs ++ [.slice (some ⟨g, 0, none⟩) c.length cap], ?_, ⟨by simp [hrs.1.1], ?_⟩, fun i c' hi => ?_⟩, K9, ?_⟩
  · rcases hk with e | rfl | e
    · exact Nat.lt_of_lt_of_le (h.lt k e) K9.size
    · exact Nat.lt_of_lt_of_le hg.lt K9.size
    · rw [hsz]; exact hlt8 k e
  · refine (hc8.set 2 v8).congr (fun j hj => ?_)
    unfold mkC
    by_cases e : j = 2
    · subst e; simp
    · rw [if_neg e]
      have : j = 0 ∨ j = 1 := by omega
      rcases this with rfl | rfl <;> simp
  · refine h.map.keep (nb ab (h.lt _ h.sab) ?_ ?_)
    · rintro rfl
      obtain ⟨es, ck, e⟩ := h.map.lt
      obtain ⟨c, hc, _⟩ := h.cells
      rw [e] at hc
      cases hc
    · intro e
      obtain ⟨es, ck, e'⟩ := h.map.lt
      rcases hrow.2 with ⟨e1, _⟩ | ⟨g', cap', cur, e1, _, e2, _⟩
      · rw [e1] at e; simp [Value.ownBlock] at e
      · rw [e1] at e
        simp [Value.ownBlock] at e
        subst e
        rw [e'] at e2
        cases e2
  · have := ownsRow_setCell_other (a := ⟨mb, 2, none⟩) hown hne8 v8
    simpa using this
  · have old : ∀ (i g' n c' : Nat), i < rs.length → rs[i]? = some (.slice (some ⟨g', 0, none⟩) n c') → S g' := fun i g' n c' hi e => by
      obtain ⟨g2, cap2, q1, q2, _⟩ := hrs.2 i _ (List.getElem?_eq_getElem (by rw [← hrs.1.1]; exact hi))
      rw [e] at q1
      cases q1
      exact q2
    have new : ∀ (i g' n c' : Nat), ¬ i < rs.length → (rs ++ [Value.slice (some ⟨g, 0, none⟩) c.length cap])[i]? = some (.slice (some ⟨g', 0, none⟩) n c') → i = rs.length ∧ g' = g := fun i g' n c' hi e => by
      rw [List.getElem?_append_right (by omega)] at e
      have := (List.getElem?_eq_some_iff.1 e).1
      simp at this
      have e0 : i - rs.length = 0 := by omega
      rw [e0] at e
      simp at e
      exact ⟨by omega, e.1.symm⟩
    intro i j g' n m c1 c2 e1 e2
    by_cases hi : i < rs.length
    · rw [List.getElem?_append_left hi] at e1
      by_cases hj : j < rs.length
      · rw [List.getElem?_append_left hj] at e2
        exact hrs.1.2 i j g' n m c1 c2 e1 e2
      · obtain ⟨_, rfl⟩ := new j g' m c2 hj e2
        exact absurd (old i g' n c1 hi e1) hgS
    · obtain ⟨e3, rfl⟩ := new i g' n c1 hi e1
      by_cases hj : j < rs.length
      · rw [List.getElem?_append_left hj] at e2
        exact absurd (old j g' m c2 hj e2) hgS
      · obtain ⟨e4, _⟩ := new j g' m c2 hj e2
        omega
  · by_cases hil : i < st.2.length
    · rw [List.getElem?_append_left hil] at hi
      obtain ⟨g', cap', q1, q2, q3⟩ := hrs.2 i c' hi
      exact ⟨g', cap', by rw [List.getElem?_append_left (by rw [hrs.1.1]; exact hil)]; exact q1, Or.inl q2, rwk q3⟩
    · rw [List.getElem?_append_right (by omega)] at hi
      have hi0 : i - st.2.length = 0 := by
        have := (List.getElem?_eq_some_iff.1 hi).1
        simp at this
        omega
      rw [hi0] at hi
      simp at hi
      subst hi
      refine ⟨g, cap, by rw [List.getElem?_append_right (by rw [hrs.1.1]; omega), hrs.1.1, hi0]; rfl, Or.inr (Or.inl rfl), rwk hg⟩
  · rcases hat with e | e
    · exact Or.inl e
    · refine Or.inr (fun k hk => ?_)
      rw [e] at hk
      cases hk
      simp

set_option maxRecDepth 100000 in
set_option maxHeartbeats 2000000 in
theorem say_in (w : World) (S : Nat → Prop) (mb ab : Nat) (ps : List (Int × Int)) (rv : Value) (st : Sc) (h : Mk S w mb ab ps rv st) (hs : st.2.length ≤ 1099511627776) (g cap : Nat) (c : List Int) (hg : Rw w g c) (hgS : ¬ S g) :
    Calls Tryz.prog 118 #[.pointer (some ⟨mb, 0, none⟩), .slice (some ⟨g, 0, none⟩) c.length cap] w fun e w' => e = .returned (.tuple #[]) ∧ ∃ S' rv', Mk S' w' mb ab ps rv' (st.1, st.2 ++ [c]) ∧ (∀ k, S' k → S k ∨ k = g ∨ w.heap.size ≤ k) ∧ (rv'.ownBlock = rv.ownBlock ∨ ∀ k, rv'.ownBlock = some k → w.heap.size ≤ k) ∧ Kept (fun k => k = mb ∨ rv.ownBlock = some k) w w' := by
  obtain ⟨rs, h1, h2, h3⟩ := h.rows
  obtain ⟨va, vc, hv⟩ := row_formM h1
  subst hv
  have c2 : w.cell? ⟨mb, 2, none⟩ = some (.slice va rs.length vc) := h.cells.cell (i := 2) (by omega)
  have f2 := h.cells.frozen 2
  obtain ⟨i0, hi0, hz0, hz1, hz2⟩ := info_parts infoInts
  have HM : Hid (_ ∧ _) := And.intro h (And.intro h2 h3)
  have HSV : Hid (_) := h.srv
  have hmb := h.cells.lt
  have hne : (Value.slice va rs.length vc).ownBlock ≠ some mb := rowIs_type h.cells (by decide) h1
  have HR : Hid (_ ∧ _) := And.intro hg hgS
  have hrl : rs.length ≤ 1099511627776 := by rw [h2.1]; exact hs
  clear h h2 h3 hg hgS
  go_enter Tryz.func118, Tryz.ntmps118
  go_wp2_with (first | (at_builtin; refine Aside.out ?_))
  delta Aside
  refine wpList_append_own_at _ rfl _ _ 116 rfl 0 39 i0 _ 1 24 Tryz.underlying116 hi0 hz0 hz1 hz2 rfl (by decide) _ _ _ rfl (h1.alloc _) ⟨_, 0, none⟩ 1 1 [.slice (some ⟨g, 0, none⟩) c.length cap] rfl rfl (cell_oneV w _ _) (by simp [Value.oneCell']) (by unfold maxLen; omega) (by omega) (by simp) ?_
  intro v8 w8 hown8 hgrow8 _ hat8
  have hb8 : w8.heap[mb]? = w.heap[mb]? := (hgrow8.block _ (by simp; omega) (fun e => hne e.symm)).trans (Below.heap_alloc w _ _ hmb)
  have d2 : w8.cell? ⟨mb, 2, none⟩ = some (.slice va rs.length vc) := (World.cell?_of_block (a := ⟨mb, 2, none⟩) hb8).trans c2
  have e2 : w8.frozen? ⟨mb, 2, none⟩ = false := (World.frozen?_of_block (a := ⟨mb, 2, none⟩) hb8).trans f2
  obtain ⟨g8, cap8, hv8⟩ := ownsRow_succ hown8
  have HF : Hid (_ ∧ _ ∧ _) := HM.out.1.said HM.out.2 HR.out.1 HR.out.2 h1 hown8 hgrow8 hat8
  subst hv8
  clear hown8 hgrow8 hat8 HM HR h1
  go_wp2_with fail
  refine ⟨rfl, .tuple #[], by simp [results, Tryz.results118], ?_⟩
  obtain ⟨m1, m2, m3⟩ := HF.out
  refine ⟨rfl, _, _, m1, fun k hk => ?_, m3, m2⟩
  rcases hk with e | e | e
  · exact Or.inl e
  · exact Or.inr (Or.inl e)
  · rcases m3 with e' | e'
    · rw [e'] at e
      exact Or.inl (HSV.out k e)
    · exact Or.inr (Or.inr (e' k e))

/-- A clause of fresh literals. -/
theorem rw_new (w : World) (c : List Int) (ty : TypeId) (hty : ty = 3) : Rw (w.alloc (.cells (c.map (fun x => Value.int .i64 x)).toArray ty)) w.heap.size c := by
  subst hty
  have hn := made_row w (c.map (fun x => Value.int .i64 x)).toArray 3
  exact ⟨_, _, by simp, hn, fun j x hj => by simp [hj]⟩

/-- say, of literals that were laid just now. -/
theorem Made.say {S : Nat → Prop} {w : World} {mb ab : Nat} {ps : List (Int × Int)} {rv : Value} {st : Sc} (h : Mk S w mb ab ps rv st) (hs : st.2.length ≤ 1099511627776) (cap : Nat) (c : List Int) :
    Calls Tryz.prog 118 #[.pointer (some ⟨mb, 0, none⟩), .slice (some ⟨w.heap.size, 0, none⟩) c.length cap] (w.alloc (.cells (c.map (fun x => Value.int .i64 x)).toArray 3)) fun e w' => e = .returned (.tuple #[]) ∧ Made S w w' mb ab ps rv (st.1, st.2 ++ [c]) := by
  have h2 : Mk S (w.alloc (.cells (c.map (fun x => Value.int .i64 x)).toArray 3)) mb ab ps rv st := h.keep (by simp) (fun k hk => Below.heap_alloc w _ k (h.lt k hk))
  refine (say_in _ S mb ab ps rv st h2 hs w.heap.size cap c (rw_new w c _ rfl) (fun hS => absurd (h.lt _ hS) (by omega))).mono ?_
  rintro e w' ⟨rfl, S', rv', m1, m2, m3, m4⟩
  refine ⟨rfl, S', rv', m1, fun k hk => ?_, m3.imp id (fun e k hk => ?_), ((Kept.refl _ w).alloc _).trans m4⟩
  · rcases m2 k hk with e | e | e
    · exact Or.inl e
    · exact Or.inr (by omega)
    · exact Or.inr (by simp at e; omega)
  · have := e k hk
    simp at this
    omega

set_option maxRecDepth 100000 in
set_option maxHeartbeats 2000000 in
theorem both_in (w : World) (S : Nat → Prop) (mb ab : Nat) (ps : List (Int × Int)) (rv : Value) (st : Sc) (h : Mk S w mb ab ps rv st) (hs : st.1 ≤ 1099511627776) (hs2 : st.2.length ≤ 1073741824) (p q : Int) (hp : p.natAbs ≤ 1099511627776) (hq : q.natAbs ≤ 1099511627776) :
    Calls Tryz.prog 158 #[.pointer (some ⟨mb, 0, none⟩), .int .i64 p, .int .i64 q] w fun e w' => e = .returned (.int .i64 ((st.1 + 1 : Nat) : Int)) ∧ Made S w w' mb ab ps rv (st.1 + 1, st.2 ++ [[-((st.1 + 1 : Nat) : Int), p], [-((st.1 + 1 : Nat) : Int), q], [((st.1 + 1 : Nat) : Int), -p, -q]]) := by
  have V := variable_in w S mb ab ps rv st h hs
  have SY : ∀ (S : Nat → Prop) (w : World) (rv : Value) (st : Sc), Mk S w mb ab ps rv st → st.2.length ≤ 1099511627776 → ∀ (cap : Nat) (c : List Int), Calls Tryz.prog 118 #[.pointer (some ⟨mb, 0, none⟩), .slice (some ⟨w.heap.size, 0, none⟩) c.length cap] (w.alloc (.cells (c.map (fun x => Value.int .i64 x)).toArray 3)) fun e w' => e = .returned (.tuple #[]) ∧ Made S w w' mb ab ps rv (st.1, st.2 ++ [c]) := fun S w rv st h hs cap c => Made.say h hs cap c
  have HSY : Hid _ := SY
  have HS : Hid (S mb ∧ mb < w.heap.size) := ⟨h.smb, h.cells.lt⟩
  have e1 : IntKind.i64.wrap (-(((st.1 + 1 : Nat) : Int))) = -((st.1 + 1 : Nat) : Int) := by rw [IntKind.wrap_i64]; omega
  have e2 : IntKind.i64.wrap (-p) = -p := by rw [IntKind.wrap_i64]; omega
  have e3 : IntKind.i64.wrap (-q) = -q := by rw [IntKind.wrap_i64]; omega
  generalize hx : ((st.1 + 1 : Nat) : Int) = x at *
  obtain ⟨n, cs⟩ := st
  simp only at *
  clear SY h hx hs
  go_enter Tryz.func158, Tryz.ntmps158
  go_wp2_with (first | (go_at_call 117; refine V.mono ?_; rintro e w1 ⟨rfl, M1, K1⟩; refine Aside.out ?_))
  delta Aside
  have A1 : MadeX S w rv S w1 rv mb ab ps (n + 1, cs) := ⟨M1, fun k hk => Or.inl hk, Or.inl rfl, K1.mono (fun _ _ e => Or.inl e)⟩
  have Y1 := HSY.out S w1 rv _ M1 (by simp; omega) 2 [-x, p]
  clear M1 K1 V
  apply_assumption
  go_wp2_with (first | (go_at_call 118; refine Y1.mono ?_; rintro e w2 ⟨rfl, M2⟩; refine Aside.out ?_))
  delta Aside
  obtain ⟨S2, rv2, X2⟩ := M2
  have A2 := A1.trans X2
  have Y2 := HSY.out S2 w2 rv2 _ X2.is (by simp; omega) 2 [-x, q]
  clear A1 X2 Y1
  apply_assumption
  go_wp2_with (first | (go_at_call 118; refine Y2.mono ?_; rintro e w3 ⟨rfl, M3⟩; refine Aside.out ?_))
  delta Aside
  obtain ⟨S3, rv3, X3⟩ := M3
  have A3 := A2.trans X3
  have Y3 := HSY.out S3 w3 rv3 _ X3.is (by simp; omega) 3 [x, -p, -q]
  clear A2 X3 Y2
  apply_assumption
  go_wp2_with (first | (go_at_call 118; refine Y3.mono ?_; rintro e w4 ⟨rfl, M4⟩))
  go_ret
  obtain ⟨S4, rv4, X4⟩ := M4
  have A4 := A3.trans X4
  simp only [List.append_assoc, List.cons_append, List.nil_append] at A4
  exact ⟨rfl, S4, rv4, A4⟩

end Go.Proofs.YtlehlgipbhfioaaGreat

namespace Go.Proofs.YtlehlgipbhfioaaGreat
open Go.RowKit Go.Maps

/-- Number i stands yet, when j terms behind the first s have been taken out. -/
def standsB (s j i : Nat) : Bool := decide (i < s ∨ s + j ≤ i)

structure Out (l r : List Tm) (j : Nat) (Dn Df : DataW Unit) : Prop where
  nsize : Maps.size Dn + j = (l ++ r).length
  nsays : ∀ t : Tm, t.ok → Says Dn (ekey t) ((nix (l ++ r) t).filter (standsB l.length j))
  fsize : Maps.size Df = ((List.range (l ++ r).length).filter (fun i => isF (l ++ r) i && standsB l.length j i)).length
  fsays : ∀ n : ByteArray, n.size ≤ 6 → Says Df (skey n) ((fst (l ++ r) n).filter (standsB l.length j))

theorem stands0 (s i : Nat) : standsB s 0 i = true := by unfold standsB; exact decide_eq_true (by omega)
theorem filter_all {α : Type} (p : α → Bool) (h : ∀ x, p x = true) (o : Option α) : o.filter p = o := by cases o <;> simp [Option.filter, h]

theorem Out.start {l r : List Tm} {Dn Df : DataW Unit} (T : Tells (l ++ r) Dn Df) : Out l r 0 Dn Df := by
  refine ⟨T.nsize, fun t ht => ?_, ?_, fun n hn => ?_⟩
  · rw [filter_all _ (stands0 _)]; exact T.nsays t ht
  · rw [T.fsize]
    unfold cntF
    congr 1
    exact List.filter_congr (fun i _ => by rw [stands0]; simp)
  · rw [filter_all _ (stands0 _)]; exact T.fsays n hn

theorem nix_some {l : List Tm} {t : Tm} {i : Nat} (h : nix l t = some i) : l[i]? = some t := by
  obtain ⟨hi, hp, _⟩ := List.findIdx?_eq_some_iff_getElem.1 h
  rw [List.getElem?_eq_getElem hi, of_decide_eq_true hp]

theorem nix_at {l : List Tm} (hd : l.Nodup) {i : Nat} {t : Tm} (h : l[i]? = some t) : nix l t = some i := by
  obtain ⟨hi, e⟩ := List.getElem?_eq_some_iff.1 h
  cases hx : nix l t with
  | none => exact absurd (e ▸ List.getElem_mem hi) (nix_none hx)
  | some k =>
    obtain ⟨hk, ek⟩ := List.getElem?_eq_some_iff.1 (nix_some hx)
    have := (List.getElem_inj hd (h₀ := hk) (h₁ := hi)).1 (ek.trans e.symm)
    rw [this]

theorem stands_step {s j i : Nat} (h : i ≠ s + j) : standsB s (j + 1) i = standsB s j i := by
  unfold standsB
  exact decide_eq_decide.2 (by omega)
theorem stands_gone (s j : Nat) : standsB s (j + 1) (s + j) = false := decide_eq_false (by omega)
theorem stands_here (s j : Nat) : standsB s j (s + j) = true := decide_eq_true (by omega)

theorem filter_step {o : Option Nat} {s j : Nat} (h : o ≠ some (s + j)) : o.filter (standsB s (j + 1)) = o.filter (standsB s j) := by
  cases o with
  | none => rfl
  | some i =>
    have hi : i ≠ s + j := fun e => h (by rw [e])
    simp [Option.filter, stands_step hi]

/-- One term of the map of numbers. -/
theorem Out.nstep {l r : List Tm} {j : Nat} {Dn Df : DataW Unit} (O : Out l r j Dn Df) (hd : (l ++ r).Nodup) {e : Tm} (he : r[j]? = some e) (ho : e.ok) (hD : Tidy Dn) :
    Maps.size (Dn.del (ekey e)) + (j + 1) = (l ++ r).length ∧ ∀ t : Tm, t.ok → Says (Dn.del (ekey e)) (ekey t) ((nix (l ++ r) t).filter (standsB l.length (j + 1))) := by
  have ha : (l ++ r)[l.length + j]? = some e := by rw [List.getElem?_append_right (by omega)]; simpa using he
  have hn := nix_at hd ha
  constructor
  · have h1 := size_del (k := ekey e) hD
    have h2 := (O.nsays e ho).1
    rw [hn] at h2
    simp [Option.filter, stands_here] at h2
    rw [h2] at h1
    have := O.nsize
    simp at h1
    omega
  · intro t ht
    by_cases h : t = e
    · subst h
      rw [hn]
      simp only [Option.filter, stands_gone]
      exact Says.del_same
    · have hne : nix (l ++ r) t ≠ some (l.length + j) := fun x => by
        have := nix_some x
        rw [ha] at this
        exact h (Option.some.inj this).symm
      rw [filter_step hne]
      exact (O.nsays t ht).del_other (fun x => h (ekey_inj ht ho x))

theorem filter_count {n : Nat} {p q : Nat → Bool} {k : Nat} (hk : k < n) (hp : p k = true) (hq : q k = false) (h : ∀ i, i ≠ k → q i = p i) : ((List.range n).filter q).length + 1 = ((List.range n).filter p).length := by
  induction n with
  | zero => omega
  | succ n ih =>
    rw [List.range_succ, List.filter_append, List.filter_append, List.length_append, List.length_append]
    by_cases e : k = n
    · subst e
      have e1 : (List.range k).filter q = (List.range k).filter p := List.filter_congr (fun i hi => h i (by have := List.mem_range.1 hi; omega))
      simp [e1, hp, hq]
    · have := ih (by omega)
      have hn : q n = p n := h n (fun x => e x.symm)
      simp only [List.filter_cons, hn, List.filter_nil]
      omega

theorem fst_at {l : List Tm} {n : ByteArray} {i : Nat} (h : fst l n = some i) {t : Tm} (ht : l[i]? = some t) : t.name = n := by
  obtain ⟨u, hu, hn⟩ := fst_some h
  rw [ht] at hu
  rw [Option.some.inj hu]
  exact hn

/-- The term's name had its first number here: it goes. -/
theorem Out.fgone {l r : List Tm} {j : Nat} {Dn Df : DataW Unit} (O : Out l r j Dn Df) {e : Tm} (he : r[j]? = some e) (ho : e.ok) (hf : fst (l ++ r) e.name = some (l.length + j)) (hD : Tidy Df) :
    Maps.size (Df.del (skey e.name)) = ((List.range (l ++ r).length).filter (fun i => isF (l ++ r) i && standsB l.length (j + 1) i)).length ∧
      ∀ n : ByteArray, n.size ≤ 6 → Says (Df.del (skey e.name)) (skey n) ((fst (l ++ r) n).filter (standsB l.length (j + 1))) := by
  have ha : (l ++ r)[l.length + j]? = some e := by rw [List.getElem?_append_right (by omega)]; simpa using he
  have hlt : l.length + j < (l ++ r).length := (List.getElem?_eq_some_iff.1 ha).1
  constructor
  · have h1 := size_del (k := skey e.name) hD
    have h2 := (O.fsays e.name ho.name).1
    rw [hf] at h2
    simp [Option.filter, stands_here] at h2
    rw [h2] at h1
    have h3 := O.fsize
    have h4 : isF (l ++ r) (l.length + j) = true := by unfold isF; rw [ha]; exact decide_eq_true hf
    have h5 := filter_count (p := fun i => isF (l ++ r) i && standsB l.length j i) (q := fun i => isF (l ++ r) i && standsB l.length (j + 1) i) hlt (by simp [h4, stands_here]) (by simp [stands_gone]) (fun i hi => by simp only [stands_step hi])
    simp only [if_true] at h1
    omega
  · intro n hn
    by_cases h : n = e.name
    · subst h
      rw [hf]
      simp only [Option.filter, stands_gone]
      exact Says.del_same
    · have hne : fst (l ++ r) n ≠ some (l.length + j) := fun x => h (fst_at x ha).symm
      rw [filter_step hne]
      exact (O.fsays n hn).del_other (fun x => h (skey_inj x))

/-- It had not: nothing goes. -/
theorem Out.fstays {l r : List Tm} {j : Nat} {Dn Df : DataW Unit} (O : Out l r j Dn Df) {e : Tm} (he : r[j]? = some e) (hf : fst (l ++ r) e.name ≠ some (l.length + j)) :
    Maps.size Df = ((List.range (l ++ r).length).filter (fun i => isF (l ++ r) i && standsB l.length (j + 1) i)).length ∧
      ∀ n : ByteArray, n.size ≤ 6 → Says Df (skey n) ((fst (l ++ r) n).filter (standsB l.length (j + 1))) := by
  have ha : (l ++ r)[l.length + j]? = some e := by rw [List.getElem?_append_right (by omega)]; simpa using he
  constructor
  · rw [O.fsize]
    congr 1
    apply List.filter_congr
    intro i _
    by_cases h : i = l.length + j
    · subst h
      have : isF (l ++ r) (l.length + j) = false := by unfold isF; rw [ha]; exact decide_eq_false hf
      simp [this]
    · rw [stands_step h]
  · intro n hn
    have hne : fst (l ++ r) n ≠ some (l.length + j) := fun x => hf (by rw [fst_at x ha]; exact x)
    rw [filter_step hne]
    exact O.fsays n hn

/-- What a look at the name says: whether the number is its first. -/
theorem look_first {l r : List Tm} {j : Nat} {e : Tm} (he : r[j]? = some e) :
    (((fst (l ++ r) e.name).filter (standsB l.length j)).getD 0 = l.length + j) ↔ fst (l ++ r) e.name = some (l.length + j) := by
  have ha : (l ++ r)[l.length + j]? = some e := by rw [List.getElem?_append_right (by omega)]; simpa using he
  obtain ⟨i, hi⟩ := fst_mem (List.mem_of_getElem? ha)
  rw [hi]
  by_cases h : standsB l.length j i = true
  · simp [Option.filter, h]
  · have h' : standsB l.length j i = false := by simpa using h
    simp only [Option.filter, h']
    have h2 := of_decide_eq_false h'
    simp
    omega

theorem nix_app (l r : List Tm) (t : Tm) : (nix (l ++ r) t).filter (standsB l.length r.length) = nix l t := by
  unfold nix
  rw [List.findIdx?_append]
  cases h : List.findIdx? (fun x => decide (x = t)) l with
  | some i =>
    have hi : i < l.length := (List.findIdx?_eq_some_iff_getElem.1 h).1
    have : standsB l.length r.length i = true := decide_eq_true (by omega)
    simp [Option.filter, this]
  | none =>
    cases h2 : List.findIdx? (fun x => decide (x = t)) r with
    | none => rfl
    | some k =>
      have hk : k < r.length := (List.findIdx?_eq_some_iff_getElem.1 h2).1
      have : standsB l.length r.length (k + l.length) = false := decide_eq_false (by omega)
      simp [Option.filter, this]

theorem fst_app (l r : List Tm) (n : ByteArray) : (fst (l ++ r) n).filter (standsB l.length r.length) = fst l n := by
  unfold fst
  rw [List.findIdx?_append]
  cases h : List.findIdx? (fun x => decide (x.name = n)) l with
  | some i =>
    have hi : i < l.length := (List.findIdx?_eq_some_iff_getElem.1 h).1
    have : standsB l.length r.length i = true := decide_eq_true (by omega)
    simp [Option.filter, this]
  | none =>
    cases h2 : List.findIdx? (fun x => decide (x.name = n)) r with
    | none => rfl
    | some k =>
      have hk : k < r.length := (List.findIdx?_eq_some_iff_getElem.1 h2).1
      have : standsB l.length r.length (k + l.length) = false := decide_eq_false (by omega)
      simp [Option.filter, this]

theorem isF_app (l r : List Tm) {i : Nat} (hi : i < l.length) : isF (l ++ r) i = isF l i := by
  unfold isF
  rw [List.getElem?_append_left hi, List.getElem?_eq_getElem hi]
  obtain ⟨k, hk⟩ := fst_mem (List.getElem_mem hi)
  have e : fst (l ++ r) l[i].name = fst l l[i].name := by
    rw [hk]
    unfold fst at hk ⊢
    rw [List.findIdx?_append, hk]
    rfl
  simp only [e]

theorem count_app (l r : List Tm) : ((List.range (l ++ r).length).filter (fun i => isF (l ++ r) i && standsB l.length r.length i)).length = cntF l := by
  unfold cntF
  rw [List.length_append, List.range_add, List.filter_append, List.length_append]
  have e1 : (List.range l.length).filter (fun i => isF (l ++ r) i && standsB l.length r.length i) = (List.range l.length).filter (isF l) := List.filter_congr (fun i hi => by
    have h := List.mem_range.1 hi
    have : standsB l.length r.length i = true := decide_eq_true (by omega)
    rw [isF_app l r h, this]; simp)
  have e2 : ((List.range r.length).map (fun x => l.length + x)).filter (fun i => isF (l ++ r) i && standsB l.length r.length i) = [] := List.filter_eq_nil_iff.2 (fun i hi => by
    obtain ⟨k, hk, rfl⟩ := List.mem_map.1 hi
    have h := List.mem_range.1 hk
    have : standsB l.length r.length (l.length + k) = false := decide_eq_false (by omega)
    simp [this])
  rw [e1, e2]
  simp

/-- All of r is taken out: what is left says l. -/
theorem Out.done {l r : List Tm} {Dn Df : DataW Unit} (O : Out l r r.length Dn Df) (ho : ∀ t ∈ l, t.ok) (hd : l.Nodup) (hs : l.length ≤ 1000) : Tells l Dn Df := by
  refine ⟨?_, fun t ht => ?_, ?_, fun n hn => ?_, ho, hd, hs⟩
  · have := O.nsize
    simp at this
    omega
  · rw [← nix_app l r]; exact O.nsays t ht
  · rw [O.fsize]; exact count_app l r
  · rw [← fst_app l r]; exact O.fsays n hn

end Go.Proofs.YtlehlgipbhfioaaGreat

namespace Go.Proofs.YtlehlgipbhfioaaGreat
open Go.RowKit Go.Maps

/-- A row by what is ahead of its cut. -/
def RowTo (w : World) (base g cap k : Nat) (xs : List Value) : Prop :=
  ∃ cur, base ≤ g ∧ w.heap[g]? = some (.cells cur 152 (0, 0)) ∧ cap ≤ maxLen ∧ cur.size = cap * 6 ∧ cur.toList.take (k * 6) = xs

theorem RowTo.owns {w : World} {base g cap k : Nat} {xs : List Value} (h : RowTo w base g cap k xs) (hk : k ≤ cap) : w.ownsRow base 152 6 (.slice (some ⟨g, 0, none⟩) k cap) k xs := by
  obtain ⟨cur, h1, h2, h3, h4, h5⟩ := h
  refine ⟨?_, Or.inr ⟨g, cap, cur, rfl, h1, h2, hk, h3, h4, h5⟩⟩
  rw [← h5, List.length_take]
  simp [h4]
  omega

theorem RowTo.of {w : World} {base g cap n : Nat} {xs : List Value} (h : w.ownsRow base 152 6 (.slice (some ⟨g, 0, none⟩) n cap) n xs) {k : Nat} (hk : k ≤ n) : RowTo w base g cap k (xs.take (k * 6)) ∧ n ≤ cap := by
  rcases h.2 with ⟨e, _⟩ | ⟨g', cap', cur, e, h1, h2, h3, h4, h5, h6⟩
  · cases e
  · injection e with e1 e2 e3
    injection e1 with e1
    injection e1 with e1 _ _
    subst e1
    subst e3
    refine ⟨⟨cur, h1, h2, h4, h5, ?_⟩, h3⟩
    rw [← h6, List.take_take]
    congr 1
    omega

theorem RowTo.set {w : World} {base g cap k : Nat} {xs : List Value} (h : RowTo w base g cap k xs) {o : Nat} (ho : k * 6 ≤ o) (u : Value) : RowTo (w.setCell ⟨g, o, none⟩ u) base g cap k xs := by
  obtain ⟨cur, h1, h2, h3, h4, h5⟩ := h
  refine ⟨cur.setIfInBounds o u, h1, ?_, h3, by simpa using h4, ?_⟩
  · rw [setCell_eq_setRow w g o cur _ (0, 0) _ h2, setRow_heap w g _ _ _ _ h2]
  · rw [← h5]
    simp [List.take_set]
    rw [List.set_eq_of_length_le]
    simp
    omega

theorem RowTo.sets {base g cap k : Nat} {xs : List Value} : ∀ (vs : List Value) (o : Nat) (w : World), RowTo w base g cap k xs → k * 6 ≤ o → RowTo (w.setCells g o vs) base g cap k xs
  | [], _, _, h, _ => h
  | v :: vs, o, w, h, ho => RowTo.sets vs (o + 1) (w.setCell ⟨g, o, none⟩ v) (h.set ho v) (by omega)

/-- 'clear(s)' of elements of several cells. -/
theorem run_clear_many {P : Program} (w : World) (t e ty : TypeId) (z : Value) (ht : P.underlying t = some (.slice e)) (hv : ∀ w, (zeroValue e).run P w = .ok z w) (b o n c : Nat) (hn : 0 < n) (vs : List Value) (hvs : (Builtin.zeroCells z.cells n).toList = vs) (h1 : ∀ v ∈ vs, v.oneCell' = true)
    (hc : ∀ j, j < vs.length → (w.cell? ⟨b, o + j, none⟩).isSome = true) (hf : ∀ j, j < vs.length → w.frozen? ⟨b, o + j, none⟩ = false) :
    (Builtin.clear_ #[t] ty #[.slice (some ⟨b, o, none⟩) n c]).run P w = .ok (.tuple #[]) (w.setCells b o vs) := by
  have hst := run_storeCells_cells (P := P) b o vs 0 w (by simpa using hc) (by simpa using hf) h1
  simp only [Nat.add_zero] at hst
  obtain ⟨m, rfl⟩ : ∃ m, n = m + 1 := ⟨n - 1, by omega⟩
  simp [Builtin.clear_, run_underlying ht, hv, hvs, hst]

end Go.Proofs.YtlehlgipbhfioaaGreat

namespace Go.Proofs.YtlehlgipbhfioaaGreat
open Go.RowKit Go.Maps

/-- 'firsts[n]' without ok. -/
theorem Says.look1 {w : World} {k t : TypeId} {b : Nat} {D : DataW Unit} {key : Value} {kl : Lit} {o : Option Nat} (h : mapIs w k b D) (S : Says D kl o) (K : Keyed Tryz.prog k) (ht : Tryz.prog.underlying t = some (.map k 3)) (hkey : keyOf Tryz.prog k key = some kl) :
    (Instr.lookup t (.map (some b)) key false).run Tryz.prog w = .ok (.int .i64 ((o.getD 0 : Nat) : Int)) w := by
  obtain ⟨c, hrun, hat, _⟩ := World.ownsMap.lookup_int h K ht Tryz.underlying3 (zeroI w) hkey
  rw [S.2] at hat
  simp at hat
  rw [hrun, hat]

theorem Bq.dropN {w : World} {base p : Nat} {ev : Value} {nb fb : Nat} {l : List Tm} {Dn Df : DataW Unit} (h : Bq w base p ev nb fb l Dn Df) {t : Tm} (ht : t.ok) (ty : TypeId) :
    ∃ w', (Builtin.delete_ #[80, 152] ty #[.map (some nb), entryV t]).run Tryz.prog w = .ok (.tuple #[]) w' ∧ Bq w' base p ev nb fb l (Dn.del (ekey t)) Df ∧ Kept1 nb w w' := by
  obtain ⟨w', hr, ho, hturn⟩ := World.ownsMap.drop h.nums tLaw Tryz.underlying80 (ekey_of ht) ty
  have g := hturn.grown
  exact ⟨w', hr, ⟨h.bank.of_block (g.block p h.bank.lt (by simpa using h.pn)), h.rows.kept g (Or.inr h.en), mapIs_of ho, World.ownsMap.kept h.fsts g (by simpa using Ne.symm h.nf), h.pn, h.pf, h.nf, h.ep, h.en, h.ef, h.bp, h.bn, h.bf⟩, Kept1.of_grown g⟩

theorem Bq.dropF {w : World} {base p : Nat} {ev : Value} {nb fb : Nat} {l : List Tm} {Dn Df : DataW Unit} (h : Bq w base p ev nb fb l Dn Df) {s : ByteArray} (ht : s.size ≤ 6) (ty : TypeId) :
    ∃ w', (Builtin.delete_ #[81, 9] ty #[.map (some fb), .string s]).run Tryz.prog w = .ok (.tuple #[]) w' ∧ Bq w' base p ev nb fb l Dn (Df.del (skey s)) ∧ Kept1 fb w w' := by
  obtain ⟨w', hr, ho, hturn⟩ := World.ownsMap.drop h.fsts sLaw Tryz.underlying81 (skey_of ht) ty
  have g := hturn.grown
  exact ⟨w', hr, ⟨h.bank.of_block (g.block p h.bank.lt (by simpa using h.pf)), h.rows.kept g (Or.inr h.ef), World.ownsMap.kept h.nums g (by simpa using h.nf), mapIs_of ho, h.pn, h.pf, h.nf, h.ep, h.en, h.ef, h.bp, h.bn, h.bf⟩, Kept1.of_grown g⟩

theorem Bq.at {w : World} {base p : Nat} {ev : Value} {nb fb : Nat} {l : List Tm} {Dn Df : DataW Unit} (h : Bq w base p ev nb fb l Dn Df) {i : Nat} {t : Tm} (hi : l[i]? = some t) :
    ∃ g cap, ev = .slice (some ⟨g, 0, none⟩) l.length cap ∧ ∀ j u, (entryL t)[j]? = some u → w.cell? ⟨g, i * 6 + j, none⟩ = some u := by
  have hlt : i < l.length := (List.getElem?_eq_some_iff.1 hi).1
  rcases h.rows.2 with ⟨e, h0⟩ | ⟨b, cap, cur, e, _⟩
  · omega
  · refine ⟨b, cap, e, fun j u hj => ?_⟩
    have hj6 : j < 6 := by have := (List.getElem?_eq_some_iff.1 hj).1; simpa [entryL] using this
    have := h.rows.cells (g := b) (by rw [e]; rfl) (i * 6 + j) u (by rw [flat_getElem l i j hj6, hi]; exact hj)
    simp [Addr.add] at this
    split at this
    · next e0 => rw [e0.1, e0.2]; exact this
    · exact this

theorem Bq.grown {w w' : World} {base p : Nat} {ev : Value} {nb fb : Nat} {l : List Tm} {Dn Df : DataW Unit} {row : Option Nat} (h : Bq w base p ev nb fb l Dn Df) (K : w.grownBy w' row) (hp : some p ≠ row) (hn : some nb ≠ row) (hf : some fb ≠ row) (he : row = none ∨ ev.ownBlock ≠ row) : Bq w' base p ev nb fb l Dn Df :=
  ⟨h.bank.of_block (K.block p h.bank.lt hp), h.rows.kept K (he.elim (fun e => e ▸ Decidable.em (ev.ownBlock = none)) Or.inr), World.ownsMap.kept h.nums K hn, World.ownsMap.kept h.fsts K hf, h.pn, h.pf, h.nf, h.ep, h.en, h.ef, h.bp, h.bn, h.bf⟩
theorem Bq.kept0 {w w' : World} {base p : Nat} {ev : Value} {nb fb : Nat} {l : List Tm} {Dn Df : DataW Unit} (h : Bq w base p ev nb fb l Dn Df) (K : Kept0 w w') : Bq w' base p ev nb fb l Dn Df :=
  h.grown K.grownBy (by simp) (by simp) (by simp) (Or.inl rfl)

theorem Kept.setCells {S : Nat → Prop} {a : World} {g : Nat} (hg : S g) : ∀ (vs : List Value) (o : Nat) (w : World), Kept S a w → Kept S a (w.setCells g o vs)
  | [], _, _, h => h
  | v :: vs, o, _, h => Kept.setCells hg vs (o + 1) _ (Kept.setCell (p := ⟨g, o, none⟩) h hg v)

theorem flat_take (l r : List Tm) : ((l ++ r).flatMap entryL).take (l.length * 6) = l.flatMap entryL := by
  have hl : (l.flatMap entryL).length = l.length * 6 := by
    induction l with
    | nil => rfl
    | cons t l ih => rw [List.flatMap_cons, List.length_append, ih]; simp [entryL]; omega
  rw [List.flatMap_append, ← hl, List.take_left]

/-- The row is cut behind l. -/
theorem Bq.cut {w : World} {base p g ec : Nat} {nb fb : Nat} {l r : List Tm} {Dn Df : DataW Unit} (h : Bq w base p (.slice (some ⟨g, 0, none⟩) (l ++ r).length ec) nb fb (l ++ r) Dn Df) (vs : List Value) :
    Bq ((w.setCells g (l.length * 6) vs).setCell ⟨p, 0, none⟩ (.slice (some ⟨g, 0, none⟩) l.length ec)) base p (.slice (some ⟨g, 0, none⟩) l.length ec) nb fb l Dn Df ∧
      Kept (BFoot p (.slice (some ⟨g, 0, none⟩) (l ++ r).length ec) nb fb) w ((w.setCells g (l.length * 6) vs).setCell ⟨p, 0, none⟩ (.slice (some ⟨g, 0, none⟩) l.length ec)) ∧
      (w.setCells g (l.length * 6) vs).cell? ⟨p, 0, none⟩ = some (.slice (some ⟨g, 0, none⟩) (l ++ r).length ec) ∧ (w.setCells g (l.length * 6) vs).frozen? ⟨p, 0, none⟩ = false := by
  obtain ⟨R0, hle⟩ := RowTo.of h.rows (k := l.length) (by simp)
  rw [flat_take] at R0
  have R1 := RowTo.sets vs (l.length * 6) w R0 (Nat.le_refl _)
  have hgp : p ≠ g := fun e => h.ep (by rw [e]; rfl)
  have hgn : nb ≠ g := fun e => h.en (by rw [e]; rfl)
  have hgf : fb ≠ g := fun e => h.ef (by rw [e]; rfl)
  have K1 : Kept1 g w (w.setCells g (l.length * 6) vs) := Kept.setCells (S := fun k => k = g) rfl vs _ w (Kept.refl _ w)
  have hb : (w.setCells g (l.length * 6) vs).rowIs p 84 3 (bankC (.slice (some ⟨g, 0, none⟩) (l ++ r).length ec) nb fb) := h.bank.of_block (K1.block p h.bank.lt hgp)
  have n1 : mapIs (w.setCells g (l.length * 6) vs) 152 nb Dn := World.ownsMap.kept h.nums K1.grownBy (by simpa using hgn)
  have f1 : mapIs (w.setCells g (l.length * 6) vs) 9 fb Df := World.ownsMap.kept h.fsts K1.grownBy (by simpa using hgf)
  have r1 := R1.owns (by simp at hle; omega)
  refine ⟨⟨(hb.set 0 _).congr ?_, ownsRow_setCell_other (a := ⟨p, 0, none⟩) r1 h.ep _, World.ownsMap.setCell n1 (Ne.symm h.pn) _, World.ownsMap.setCell f1 (Ne.symm h.pf) _, h.pn, h.pf, h.nf, h.ep, h.en, h.ef, h.bp, h.bn, h.bf⟩, ?_, hb.cell (i := 0) (by omega), hb.frozen 0⟩
  · intro i hi
    rcases (by omega : i = 0 ∨ i = 1 ∨ i = 2) with rfl | rfl | rfl <;> simp [bankC]
  · exact Kept.setCell (S := BFoot p (.slice (some ⟨g, 0, none⟩) (l ++ r).length ec) nb fb) (p := ⟨p, 0, none⟩) (Kept.mono K1 (fun k _ x => Or.inr (Or.inr (Or.inr (by rw [x]; rfl))))) (Or.inl rfl) _

theorem Bq.reset {w : World} {base p : Nat} {ev : Value} {nb fb : Nat} {l : List Tm} {Dn Df : DataW Unit} (h : Bq w base p ev nb fb l Dn Df) : Bq (w.setCell ⟨p, 0, none⟩ ev) base p ev nb fb l Dn Df := by
  refine ⟨(h.bank.set 0 ev).congr ?_, ownsRow_setCell_other (a := ⟨p, 0, none⟩) h.rows h.ep _, World.ownsMap.setCell h.nums (Ne.symm h.pn) _, World.ownsMap.setCell h.fsts (Ne.symm h.pf) _, h.pn, h.pf, h.nf, h.ep, h.en, h.ef, h.bp, h.bn, h.bf⟩
  intro i hi
  rcases (by omega : i = 0 ∨ i = 1 ∨ i = 2) with rfl | rfl | rfl <;> simp [bankC]

theorem RowTo.row {w : World} {base g cap k : Nat} {xs : List Value} (h : RowTo w base g cap k xs) : ∃ f, w.rowIs g 152 (cap * 6) f := by
  obtain ⟨cur, _, h2, _, h4, _⟩ := h
  refine ⟨fun i => cur[i]?.getD undef, cur, h2, h4, ?_⟩
  intro i hi
  have hc : i < cur.size := by omega
  simp [Array.getElem?_eq_getElem hc]

theorem zeros_one (n : Nat) : ∀ v ∈ (Builtin.zeroCells (Value.agg #[.string ⟨#[]⟩, .int .i64 0, .int .i64 0, .int .i64 0, .int .i64 0, .int .i64 0]).cells n).toList, v.oneCell' = true := by
  intro v hv
  simp [Builtin.zeroCells, Value.cells] at hv
  obtain ⟨i, _, rfl⟩ := hv
  rcases (by omega : i % 6 = 0 ∨ i % 6 = 1 ∨ i % 6 = 2 ∨ i % 6 = 3 ∨ i % 6 = 4 ∨ i % 6 = 5) with e | e | e | e | e | e <;> rw [e] <;> rfl
theorem zeros_len (n : Nat) : (Builtin.zeroCells (Value.agg #[.string ⟨#[]⟩, .int .i64 0, .int .i64 0, .int .i64 0, .int .i64 0, .int .i64 0]).cells n).toList.length = n * 6 := by
  simp [Builtin.zeroCells, Value.cells]

theorem run_clear_none {P : Program} (w : World) (t e ty : TypeId) (ht : P.underlying t = some (.slice e)) (a : Option Addr) (c : Nat) : (Builtin.clear_ #[t] ty #[.slice a 0 c]).run P w = .ok (.tuple #[]) w := by
  cases a <;> simp [Builtin.clear_, run_underlying ht]

set_option maxHeartbeats 1000000 in
theorem takeOut_in (w : World) (base p : Nat) (ev : Value) (nb fb : Nat) (l r : List Tm) (h : Bk w base p ev nb fb (l ++ r)) :
    Calls Tryz.prog 57 #[.pointer (some ⟨p, 0, none⟩), .int .i64 (l.length : Int)] w fun e w' => e = .returned (.tuple #[]) ∧ ∃ ev', Bk w' base p ev' nb fb l ∧ ev'.ownBlock = ev.ownBlock ∧ Kept (BFoot p ev nb fb) w w' := by
  have hsm := h.small
  have hoks := h.oks
  have hnd := h.nodup
  obtain ⟨ea, ec, rfl⟩ := h.eform
  obtain ⟨Dn, Df, hq, T⟩ := h.split
  clear h
  rw [List.length_append] at hsm
  go_enter Tryz.func57, Tryz.ntmps57
  go_wp2_with fail
  go_loopw [4] (fun t W => ∃ j : Nat, j ≤ r.length ∧ t = .int .i64 ((l.length + j : Nat) : Int) ∧ ∃ Dn Df, Bq W base p (.slice ea (l ++ r).length ec) nb fb (l ++ r) Dn Df ∧ Out l r j Dn Df ∧ Hid (Kept (BFoot p (.slice ea (l ++ r).length ec) nb fb) w W)) (fun t _ => (l ++ r).length - (intOf t).toNat)
  case atStart => exact ⟨0, by omega, by simp, Dn, Df, hq, Out.start T, Kept.refl _ w⟩
  case round =>
    clear hq T Dn Df
    obtain ⟨j, hj, rfl, Dn, Df, Q, O, K⟩ := hrel
    have c0 : wr.cell? ⟨p, 0, none⟩ = some (.slice ea (l ++ r).length ec) := Q.bank.cell (by omega)
    have c1 : wr.cell? ⟨p, 1, none⟩ = some (.map (some nb)) := Q.bank.cell (i := 1) (by omega)
    have c2 : wr.cell? ⟨p, 2, none⟩ = some (.map (some fb)) := Q.bank.cell (i := 2) (by omega)
    have hll : (l ++ r).length = l.length + r.length := List.length_append
    by_cases hjr : j < r.length
    · have hre : r[j]? = some r[j] := List.getElem?_eq_getElem hjr
      generalize hgen : r[j] = e at hre
      have hae : (l ++ r)[l.length + j]? = some e := by rw [List.getElem?_append_right (by omega)]; simpa using hre
      have hok : e.ok := hoks e (List.mem_of_getElem? hae)
      obtain ⟨g, cap, hgc, hg⟩ := Q.at hae
      injection hgc with hg1 _ hg3
      subst hg1
      subst hg3
      have g0 : wr.cell? ⟨g, (l.length + j) * 6, none⟩ = some (.string e.name) := hg 0 _ rfl
      have g1 := hg 1 _ rfl
      have g2 := hg 2 _ rfl
      have g3 := hg 3 _ rfl
      have g4 := hg 4 _ rfl
      have g5 := hg 5 _ rfl
      clear hg
      go_wp2_with fail
      clear g0 g1 g2 g3 g4 g5 c0 c1 c2
      have bR := boxed_row wr e
      have hEL : (entryL e).toArray = #[.string e.name, .int .i64 (e.args.length : Int), .int .i64 (e.arg 0 : Int), .int .i64 (e.arg 1 : Int), .int .i64 (e.arg 2 : Int), .int .i64 (e.arg 3 : Int)] := rfl
      rw [hEL] at bR
      generalize hw1 : wr.alloc (Obj.cells #[.string e.name, .int .i64 (e.args.length : Int), .int .i64 (e.arg 0 : Int), .int .i64 (e.arg 1 : Int), .int .i64 (e.arg 2 : Int), .int .i64 (e.arg 3 : Int)] 152) = w1 at bR ⊢
      have K1 : Kept0 wr w1 := hw1 ▸ Kept.alloc (Kept.refl _ wr) _
      clear hw1
      have Q1 := Q.kept0 K1
      have hnl := World.ownsMap.lt Q.nums
      have hfl := World.ownsMap.lt Q.fsts
      generalize wr.heap.size = bx at *
      have c1 : w1.cell? ⟨p, 1, none⟩ = some (.map (some nb)) := Q1.bank.cell (i := 1) (by omega)
      have y0 := bR.c0
      have y1 := bR.c1
      have y2 := bR.c2
      have y3 := bR.c3
      have y4 := bR.c4
      have y5 := bR.c5
      obtain ⟨w2, hr2, Q2, K2⟩ := Bq.dropN Q1.drew hok 0
      simp only [entryV, hEL] at hr2
      go_region
      clear hr2 y0 y1 y2 y3 y4 y5 c1
      have b2 : Boxed w2 bx e := World.rowIs.of_block (World.rowIs.of_block bR rfl : Boxed w1.drew bx e) (K2.block bx (World.rowIs.lt bR) (by omega))
      have y0 := b2.c0
      have c2 : w2.cell? ⟨p, 2, none⟩ = some (.map (some fb)) := Q2.bank.cell (i := 2) (by omega)
      have LF := fun m => Says.look1 (Q2.drewN m).fsts (O.fsays e.name hok.name) sLaw Tryz.underlying81 (skey_of hok.name)
      have hlook := look_first (l := l) hre
      obtain ⟨N1, N2⟩ := O.nstep hnd hre hok (World.ownsMap.tidy Q.nums tLaw)
      generalize ((fst (l ++ r) e.name).filter (standsB l.length j)).getD 0 = f at *
      have KK : Kept (BFoot p (.slice (some ⟨g, 0, none⟩) (l ++ r).length ec) nb fb) w w2 := ((Kept.trans K (Kept.mono K1 (fun _ _ x => x.elim))).drew).trans (Kept.mono K2 (fun _ _ x => Or.inr (Or.inl x)))
      by_cases hf : f = l.length + j
      · have hf1 := hlook.1 hf
        have hb : ((f : Int) == (l.length : Int) + (j : Int)) = true := by simp; omega
        go_wp2_with fail
        go_quiet (fail)
        go_wp2_with fail
        have z0 : ∀ m, (w2.drewN m).cell? ⟨bx, 0, none⟩ = some (.string e.name) := fun m => y0
        have z2 : ∀ m, (w2.drewN m).cell? ⟨p, 2, none⟩ = some (.map (some fb)) := fun m => c2
        obtain ⟨F1, F2⟩ := O.fgone hre hok hf1 (World.ownsMap.tidy Q.fsts sLaw)
        obtain ⟨w3, hr3, Q3, K3⟩ := Bq.dropF (Q2.drewN (nq + 1)) hok.name 0
        go_region
        all_goals
          go_wp2_with fail
          refine ⟨⟨j + 1, by omega, by simp; omega, _, _, Q3, ⟨N1, N2, F1, F2⟩, (Kept.drewN KK _).trans (Kept.mono K3 (fun _ _ x => Or.inr (Or.inr (Or.inl x))))⟩, ?_⟩
          simp only [intOf]
          omega
      · have hf1 : fst (l ++ r) e.name ≠ some (l.length + j) := fun x => hf (hlook.2 x)
        have hb : ((f : Int) == (l.length : Int) + (j : Int)) = false := by simp; omega
        go_wp2_with fail
        go_quiet (fail)
        go_wp2_with fail
        obtain ⟨F1, F2⟩ := O.fstays hre hf1
        refine ⟨⟨j + 1, by omega, by simp; omega, _, _, Q2.drewN nq, ⟨N1, N2, F1, F2⟩, Kept.drewN KK nq⟩, ?_⟩
        simp only [intOf]
        omega
    · have hjr' : j = r.length := by omega
      subst hjr'
      have TT := O.done (fun t ht => hoks t (List.mem_append_left r ht)) (List.nodup_append.1 hnd).1 (by omega)
      have f0 := Q.bank.frozen 0
      rcases Q.rows.2 with ⟨ee, h0⟩ | ⟨g, cap, cur, ee, _, _, hcap, hcm, _⟩
      · have hl0 : l = [] := List.eq_nil_of_length_eq_zero (by rw [hll] at h0; omega)
        have hr0 : r = [] := List.eq_nil_of_length_eq_zero (by rw [hll] at h0; omega)
        subst hl0
        subst hr0
        injection ee with e1 e2 e3
        subst e1
        subst e3
        have hcl := fun (a : Option Addr) (c : Nat) => run_clear_none (P := Tryz.prog) wr 82 152 0 Tryz.underlying82 a c
        go_wp2_with fail
        go_end0
        exact ⟨rfl, _, (Q.reset).whole TT, rfl, Kept.setCell (p := ⟨p, 0, none⟩) K (Or.inl rfl) _⟩
      · injection ee with e1 e2 e3
        subst e1
        subst e3
        obtain ⟨C1, C2, C3, C4⟩ := Q.cut []
        by_cases hr0 : r.length = 0
        · have hcl := fun (a : Option Addr) (c : Nat) => run_clear_none (P := Tryz.prog) wr 82 152 0 Tryz.underlying82 a c
          have hr00 : r = [] := List.eq_nil_of_length_eq_zero hr0
          subst hr00
          by_cases hec : l.length = ec
          · subst hec
            go_wp2_with fail
            go_end0
            exact ⟨rfl, _, C1.whole TT, rfl, Kept.trans K C2⟩
          · go_wp2_with fail
            go_end0
            exact ⟨rfl, _, C1.whole TT, rfl, Kept.trans K C2⟩
        · clear C1 C2 C3 C4
          have hcap' : l.length < ec := by rw [hll] at hcap; omega
          obtain ⟨FF, HF⟩ := (RowTo.of Q.rows (k := 0) (by omega)).1.row
          have CL : (Builtin.clear_ #[82] 0 #[.slice (some ⟨g, l.length * 6, none⟩) r.length (ec - l.length)]).run Tryz.prog wr = .ok (.tuple #[]) (wr.setCells g (l.length * 6) (Builtin.zeroCells (Value.agg #[.string ⟨#[]⟩, .int .i64 0, .int .i64 0, .int .i64 0, .int .i64 0, .int .i64 0]).cells r.length).toList) :=
            run_clear_many wr 82 152 0 _ Tryz.underlying82 Tryz.zeroValue152 g (l.length * 6) r.length _ (by omega) _ rfl (zeros_one _) (fun i hi => by rw [zeros_len] at hi; rw [World.rowIs.cell HF (by rw [hll] at hcap; omega)]; rfl) (fun i _ => World.rowIs.frozen HF _)
          generalize (Builtin.zeroCells (Value.agg #[.string ⟨#[]⟩, .int .i64 0, .int .i64 0, .int .i64 0, .int .i64 0, .int .i64 0]).cells r.length).toList = vs at CL
          obtain ⟨C1, C2, C3, C4⟩ := Q.cut vs
          have hne : ¬ l.length = ec := by omega
          go_wp2_with fail
          go_end0
          exact ⟨rfl, _, C1.whole TT, rfl, Kept.trans K C2⟩

end Go.Proofs.YtlehlgipbhfioaaGreat

namespace Go.Proofs.YtlehlgipbhfioaaGreat
open Go.RowKit Go.Maps Go.MapKept

def prI (p : Pr) : Int × Int := ((p.1 : Int), (p.2 : Int))
/-- A pair of small numbers. -/
def PrOk (p : Pr) : Prop := p.1 ≤ 1048576 ∧ p.2 ≤ 1048576
theorem PrOk.p64 {p : Pr} (h : PrOk p) : P64 (prI p) := by
  unfold P64 R64 prI
  obtain ⟨h1, h2⟩ := h
  simp only
  omega
theorem prI_inj {p q : Pr} (h : prI p = prI q) : p = q := by
  obtain ⟨a, b⟩ := p
  obtain ⟨c, d⟩ := q
  simp only [prI, Prod.mk.injEq] at h
  exact Prod.ext (by simp only; omega) (by simp only; omega)

/-- The numbers of the pairs. -/
def numV (vs : List (Pr × Nat)) (a : Pr) : Option Nat := (vs.find? fun e => decide (e.1 = a)).map (·.2)
def VrIs (W : World) (vb : Nat) (vs : List (Pr × Nat)) : Prop := ∃ D, mapIs W 34 vb D ∧ Maps.size D ≤ vs.length ∧ ∀ p, PrOk p → Says D (pkey (prI p)) (numV vs p)
theorem VrIs.keep {W W' : World} {mb : Nat} {vs : List (Pr × Nat)} (h : VrIs W mb vs) (hb : W'.heap[mb]? = W.heap[mb]?) : VrIs W' mb vs := by
  obtain ⟨D, h1, h2, h3⟩ := h
  obtain ⟨es, clock, e1, e2⟩ := h1
  exact ⟨D, ⟨es, clock, hb.trans e1, e2⟩, h2, h3⟩
theorem VrIs.lt {W : World} {mb : Nat} {vs : List (Pr × Nat)} (h : VrIs W mb vs) : ∃ es clock, W.heap[mb]? = some (Obj.map es clock) := by
  obtain ⟨D, ⟨es, clock, e1, _⟩, _⟩ := h
  exact ⟨es, clock, e1⟩
theorem VrIs.new (W : World) : VrIs (W.alloc (.map #[] 0)) W.heap.size [] := by
  have m1 := World.ownsMap_made (H := Unit) W Tryz.prog 34 (plainElem Tryz.prog 3)
  exact ⟨.map [], mapIs_of m1, Nat.zero_le _, fun p _ => ⟨rfl, rfl⟩⟩
theorem VrIs.look {W : World} {mb : Nat} {vs : List (Pr × Nat)} (h : VrIs W mb vs) {p : Pr} (hp : PrOk p) : (Instr.lookup 113 (.map (some mb)) (.agg #[.int .i64 (p.1 : Int), .int .i64 (p.2 : Int)]) true).run Tryz.prog W = .ok (.tuple #[.int .i64 (((numV vs p).getD 0 : Nat) : Int), .bool (numV vs p).isSome]) W := by
  obtain ⟨D, d1, d2, d3⟩ := h
  have := (d3 p hp).look d1 pLaw Tryz.underlying113 (pkey_of hp.p64)
  simp only [pairV, prI] at this
  exact this
theorem VrIs.look1 {W : World} {mb : Nat} {vs : List (Pr × Nat)} (h : VrIs W mb vs) {p : Pr} (hp : PrOk p) : (Instr.lookup 113 (.map (some mb)) (.agg #[.int .i64 (p.1 : Int), .int .i64 (p.2 : Int)]) false).run Tryz.prog W = .ok (.int .i64 (((numV vs p).getD 0 : Nat) : Int)) W := by
  obtain ⟨D, d1, d2, d3⟩ := h
  have := Says.look1 d1 (d3 p hp) pLaw Tryz.underlying113 (pkey_of hp.p64)
  simp only [pairV, prI] at this
  exact this
theorem numV_snoc (vs : List (Pr × Nat)) (k k' : Pr) (n : Nat) (h : numV vs k = none) : numV (vs ++ [(k, n)]) k' = if k' = k then some n else numV vs k' := by
  unfold numV at *
  rw [List.find?_append]
  by_cases e : k' = k
  · subst e
    rw [if_pos rfl]
    have : vs.find? (fun e => decide (e.1 = k')) = none := by simpa using h
    rw [this]
    simp
  · rw [if_neg e]
    have : ([(k, n)] : List (Pr × Nat)).find? (fun e => decide (e.1 = k')) = none := by simp; exact fun x => e x.symm
    rw [this]
    simp
theorem VrIs.store {W : World} {mb : Nat} {vs : List (Pr × Nat)} (h : VrIs W mb vs) {p : Pr} (hp : PrOk p) (hno : numV vs p = none) {n : Nat} (hn : n ≤ 1048576) (hfm : vs.length < 1000000) :
    ∃ W2, (Instr.mapUpdate 113 (.map (some mb)) (.agg #[.int .i64 (p.1 : Int), .int .i64 (p.2 : Int)]) (.int .i64 (n : Int))).run Tryz.prog W = .ok () W2 ∧ VrIs W2 mb (vs ++ [(p, n)]) ∧ Kept1 mb W W2 := by
  obtain ⟨D, d1, d2, d3⟩ := h
  obtain ⟨w', hr, ho, hturn⟩ := World.ownsMap.store d1 pLaw Tryz.underlying113 (by unfold maxLen; omega) (pkey_of hp.p64) (plainElem_int (H := Unit) Tryz.underlying3 (WalkArith.wf_i64 (n := (n : Int)) (by omega)))
  have tidy := World.ownsMap.tidy d1 pLaw
  simp only [pairV, prI] at hr
  refine ⟨w', hr, ⟨_, mapIs_of ho, ?_, fun u hu => ?_⟩, Kept1.of_grown hturn.grown⟩
  · rw [size_put tidy]
    simp only [List.length_append, List.length_singleton]
    split <;> omega
  · rw [numV_snoc vs _ _ n hno]
    by_cases e : u = p
    · subst e
      rw [if_pos rfl]
      obtain ⟨kk, e, hk⟩ := pkey_lit hu.p64
      rw [e]
      exact Says.put_same tidy.isMap hk n
    · rw [if_neg e]
      exact (d3 u hu).put_other (fun x => e (prI_inj (pkey_inj hu.p64 hp.p64 x))) _

end Go.Proofs.YtlehlgipbhfioaaGreat

namespace Go.Proofs.YtlehlgipbhfioaaGreat
open Go.RowKit Go.Maps Go.MapKept

theorem skRow : (206 : TypeId) < Tryz.prog.types.size := of_decide_eq_true (by kernel_rfl)
theorem skCells : Tryz.prog.cellsOf 206 = 10 := by kernel_rfl
theorem skCells4 : Tryz.prog.cellsOf 204 = 8 := by kernel_rfl
theorem skKeyType : Tryz.prog.keyType 206 = true := by kernel_rfl
theorem skKeyAt : Tryz.prog.keyTypeAt 5 206 = true := by kernel_rfl
theorem skLaw : Keyed Tryz.prog 206 := Keyed.of_law (deep_law_laid tLaid (m := 5) (by omega) skRow skKeyAt (by rw [Tryz.underlying206]))

def nV (l : List Nat) : Value := .agg (l.map (fun n : Nat => Value.int .i64 (n : Int))).toArray
def flat4 (c : Pr) (ps : List Pr) : List Nat := [c.1, c.2] ++ (pad4c ps).flatMap fun p => [p.1, p.2]
theorem stpV_flat (c : Pr) (ps : List Pr) : stpV c ps = (flat4 c ps).map (fun n : Nat => Value.int .i64 (n : Int)) := by
  simp only [stpV, flat4, enP, rowP, List.map_append, List.map_flatMap, List.map_cons, List.map_nil]
  rfl
theorem pad4c_ex (ps : List Pr) : ∃ a b c d, pad4c ps = [a, b, c, d] := by
  match ps with
  | [] => exact ⟨_, _, _, _, rfl⟩
  | [a] => exact ⟨_, _, _, _, rfl⟩
  | [a, b] => exact ⟨_, _, _, _, rfl⟩
  | [a, b, c] => exact ⟨_, _, _, _, rfl⟩
  | a :: b :: c :: d :: r => exact ⟨a, b, c, d, by simp [pad4c]⟩
theorem flat4_ex (c : Pr) (ps : List Pr) : ∃ x0 x1 x2 x3 x4 x5 x6 x7 x8 x9, flat4 c ps = [x0, x1, x2, x3, x4, x5, x6, x7, x8, x9] := by
  obtain ⟨a, b, d, e, h⟩ := pad4c_ex ps
  exact ⟨_, _, _, _, _, _, _, _, _, _, by rw [flat4, h]; rfl⟩
theorem flat4_inj {c c' : Pr} {ps ps' : List Pr} (h : flat4 c ps = flat4 c' ps') : c = c' ∧ pad4c ps = pad4c ps' := by
  obtain ⟨a, b, d, e, h1⟩ := pad4c_ex ps
  obtain ⟨a', b', d', e', h2⟩ := pad4c_ex ps'
  simp only [flat4, h1, h2, List.flatMap_cons, List.flatMap_nil, List.cons_append, List.nil_append, List.append_nil, List.cons.injEq, and_true] at h
  obtain ⟨q0, q1, q2, q3, q4, q5, q6, q7, q8, q9⟩ := h
  rw [h1, h2, Prod.ext q0 q1, Prod.ext q2 q3, Prod.ext q4 q5, Prod.ext q6 q7, Prod.ext q8 q9]
  exact ⟨rfl, rfl⟩

theorem wf20 {n : Nat} (h : n ≤ 1048576) : (Lit.int .i64 (n : Int)).wf = true := WalkArith.wf_i64 (by omega)
set_option maxRecDepth 100000 in
theorem step_key (x0 x1 x2 x3 x4 x5 x6 x7 x8 x9 : Nat) (h : ∀ x ∈ [x0, x1, x2, x3, x4, x5, x6, x7, x8, x9], x ≤ 1048576) : ∃ kl, keyOf Tryz.prog 206 (nV [x0, x1, x2, x3, x4, x5, x6, x7, x8, x9]) = some kl := by
  have g0 := wf20 (h x0 (by simp))
  have g1 := wf20 (h x1 (by simp))
  have g2 := wf20 (h x2 (by simp))
  have g3 := wf20 (h x3 (by simp))
  have g4 := wf20 (h x4 (by simp))
  have g5 := wf20 (h x5 (by simp))
  have g6 := wf20 (h x6 (by simp))
  have g7 := wf20 (h x7 (by simp))
  have g8 := wf20 (h x8 (by simp))
  have g9 := wf20 (h x9 (by simp))
  have hf : (nV [x0, x1, x2, x3, x4, x5, x6, x7, x8, x9]).formed Tryz.prog 206 = true := by simp [nV, Value.formed, Tryz.underlying206, skCells]
  unfold keyOf
  rw [Tryz.underlying206]
  simp only [skKeyType, hf]
  obtain ⟨m, hm⟩ : ∃ m, Tryz.prog.types.size + 1 = m + 5 := ⟨Tryz.prog.types.size - 4, by have h9 := skRow; generalize Tryz.prog.types.size = z at h9 ⊢; exact (by have h8 : 5 ≤ z := Nat.le_trans (by decide) (Nat.le_of_lt h9); omega)⟩
  rw [hm]
  have hr : List.range 4 = [0, 1, 2, 3] := rfl
  simp [Program.keyLits, Tryz.underlying206, Tryz.underlying204, Tryz.underlying34, Tryz.underlying3, skCells, skCells4, pCells, tCellsI, nV, Value.cells, hr, g0, g1, g2, g3, g4, g5, g6, g7, g8, g9]
  repeat rw [if_pos (by intro i x; rcases (by omega : i = 0 ∨ i = 1) with rfl | rfl <;> simp)]
  exact ⟨_, rfl⟩

/-- A step of small numbers. -/
def SkOk (k : Pr × List Pr) : Prop := PrOk k.1 ∧ ∀ q ∈ k.2, PrOk q
def skV (k : Pr × List Pr) : Value := .agg (stpV k.1 k.2).toArray
theorem skV_key {k : Pr × List Pr} (h : SkOk k) : ∃ kl, keyOf Tryz.prog 206 (skV k) = some kl := by
  obtain ⟨x0, x1, x2, x3, x4, x5, x6, x7, x8, x9, e⟩ := flat4_ex k.1 k.2
  have hs : ∀ x ∈ flat4 k.1 k.2, x ≤ 1048576 := fun x hx => by
    simp only [flat4, List.mem_append, List.mem_flatMap] at hx
    rcases hx with hx | ⟨p, hp, hx⟩
    · simp at hx
      rcases hx with rfl | rfl
      · exact h.1.1
      · exact h.1.2
    · have hp2 : PrOk p := by
        unfold pad4c at hp
        rcases List.mem_append.1 (List.mem_of_mem_take hp) with hp | hp
        · exact h.2 p hp
        · rw [List.eq_of_mem_replicate hp]
          exact ⟨by simp, by simp⟩
      simp at hx
      rcases hx with rfl | rfl
      · exact hp2.1
      · exact hp2.2
  rw [e] at hs
  have := step_key x0 x1 x2 x3 x4 x5 x6 x7 x8 x9 hs
  unfold skV
  rw [stpV_flat, e]
  exact this
noncomputable def stkey (k : Pr × List Pr) : Lit := (keyOf Tryz.prog 206 (skV k)).getD (.bool false)
theorem stkey_of {k : Pr × List Pr} (h : SkOk k) : keyOf Tryz.prog 206 (skV k) = some (stkey k) := by
  obtain ⟨kl, hk⟩ := skV_key h
  simp [stkey, hk]
theorem skV_inj {k j : Pr × List Pr} (h : skV k = skV j) : k.1 = j.1 ∧ pad4c k.2 = pad4c j.2 := by
  unfold skV at h
  rw [stpV_flat, stpV_flat] at h
  obtain ⟨x0, x1, x2, x3, x4, x5, x6, x7, x8, x9, e⟩ := flat4_ex k.1 k.2
  obtain ⟨y0, y1, y2, y3, y4, y5, y6, y7, y8, y9, e'⟩ := flat4_ex j.1 j.2
  refine flat4_inj ?_
  rw [e, e'] at h ⊢
  simp at h
  obtain ⟨q0, q1, q2, q3, q4, q5, q6, q7, q8, q9⟩ := h
  rw [Int.ofNat_inj.1 q0, Int.ofNat_inj.1 q1, Int.ofNat_inj.1 q2, Int.ofNat_inj.1 q3, Int.ofNat_inj.1 q4, Int.ofNat_inj.1 q5, Int.ofNat_inj.1 q6, Int.ofNat_inj.1 q7, Int.ofNat_inj.1 q8, Int.ofNat_inj.1 q9]
theorem stkey_inj {k j : Pr × List Pr} (hk : SkOk k) (hj : SkOk j) (h : stkey k = stkey j) : k.1 = j.1 ∧ pad4c k.2 = pad4c j.2 :=
  skV_inj (skLaw.inj (stkey_of hk) (by rw [h]; exact stkey_of hj))
theorem stkey_lit {k : Pr × List Pr} (hk : SkOk k) : ∃ l, stkey k = l ∧ WideAt.IsKeyLit l := by
  have h := stkey_of hk
  generalize stkey k = l at h
  exact ⟨l, rfl, skLaw.key h⟩

end Go.Proofs.YtlehlgipbhfioaaGreat

namespace Go.Proofs.YtlehlgipbhfioaaGreat
open Go.RowKit Go.Maps Go.MapKept

def setIs (w : World) (k : TypeId) (b : Nat) (D : DataW Unit) : Prop := w.ownsMap Tryz.prog k unitElem b (Maps.size D) D
theorem setIs_of {w : World} {k : TypeId} {b n : Nat} {D : DataW Unit} (h : w.ownsMap Tryz.prog k unitElem b n D) : setIs w k b D := by
  obtain ⟨es, clock, hb, F, hs, rfl⟩ := h
  exact ⟨es, clock, hb, F, by simp [Maps.size, length_sorted], rfl⟩
theorem zeroU (w : World) : (zeroValue 162).run Tryz.prog w = .ok (.agg #[]) w := Tryz.zeroValue162 w
theorem setIs.look {w : World} {k t : TypeId} {b : Nat} {D : DataW Unit} (h : setIs w k b D) (K : Keyed Tryz.prog k) (ht : Tryz.prog.underlying t = some (.map k 162)) {key : Value} {kl : Lit} (hkey : keyOf Tryz.prog k key = some kl) :
    (Instr.lookup t (.map (some b)) key true).run Tryz.prog w = .ok (.tuple #[.agg #[], .bool (Maps.has D kl)]) w := by
  obtain ⟨v, ps, hrun, hv⟩ := World.ownsMap.look_ok h K ht (zeroU w) unitElem_mk hkey
  obtain ⟨rfl, _⟩ := unitElem_inv hv
  exact hrun
theorem setIs.store {w : World} {k t : TypeId} {b : Nat} {D : DataW Unit} (h : setIs w k b D) (K : Keyed Tryz.prog k) (ht : Tryz.prog.underlying t = some (.map k 162)) (hn : Maps.size D < maxLen) {key : Value} {kl : Lit} (hkey : keyOf Tryz.prog k key = some kl) :
    ∃ w', (Instr.mapUpdate t (.map (some b)) key (.agg #[])).run Tryz.prog w = .ok () w' ∧ setIs w' k b (D.put kl (.agg [])) ∧ Kept1 b w w' := by
  obtain ⟨w', hr, ho, hturn⟩ := World.ownsMap.store h K ht hn hkey (unitElem_mk (H := Unit))
  exact ⟨w', hr, setIs_of ho, Kept1.of_grown hturn.grown⟩

/-- The steps that are known. -/
def KnIs (W : World) (kb : Nat) (ks : List (Pr × List Pr)) : Prop := ∃ D, setIs W 206 kb D ∧ Maps.size D ≤ ks.length ∧ ∀ k, SkOk k → Maps.has D (stkey k) = decide ((k.1, pad4c k.2) ∈ ks)
theorem KnIs.keep {W W' : World} {mb : Nat} {ks : List (Pr × List Pr)} (h : KnIs W mb ks) (hb : W'.heap[mb]? = W.heap[mb]?) : KnIs W' mb ks := by
  obtain ⟨D, h1, h2, h3⟩ := h
  obtain ⟨es, clock, e1, e2⟩ := h1
  exact ⟨D, ⟨es, clock, hb.trans e1, e2⟩, h2, h3⟩
theorem KnIs.lt {W : World} {mb : Nat} {ks : List (Pr × List Pr)} (h : KnIs W mb ks) : ∃ es clock, W.heap[mb]? = some (Obj.map es clock) := by
  obtain ⟨D, ⟨es, clock, e1, _⟩, _⟩ := h
  exact ⟨es, clock, e1⟩
theorem KnIs.new (W : World) : KnIs (W.alloc (.map #[] 0)) W.heap.size [] := by
  have m1 := World.ownsMap_made (H := Unit) W Tryz.prog 206 unitElem
  exact ⟨.map [], setIs_of m1, Nat.zero_le _, fun k _ => rfl⟩
theorem KnIs.look {W : World} {mb : Nat} {ks : List (Pr × List Pr)} (h : KnIs W mb ks) {k : Pr × List Pr} (hk : SkOk k) : (Instr.lookup 114 (.map (some mb)) (skV k) true).run Tryz.prog W = .ok (.tuple #[.agg #[], .bool (decide ((k.1, pad4c k.2) ∈ ks))]) W := by
  obtain ⟨D, d1, d2, d3⟩ := h
  have := d1.look skLaw Tryz.underlying114 (stkey_of hk)
  rw [d3 k hk] at this
  exact this
theorem KnIs.store {W : World} {mb : Nat} {ks : List (Pr × List Pr)} (h : KnIs W mb ks) {k : Pr × List Pr} (hk : SkOk k) (hfm : ks.length < 1000000000000) :
    ∃ W2, (Instr.mapUpdate 114 (.map (some mb)) (skV k) (.agg #[])).run Tryz.prog W = .ok () W2 ∧ KnIs W2 mb (ks ++ [(k.1, pad4c k.2)]) ∧ Kept1 mb W W2 := by
  obtain ⟨D, d1, d2, d3⟩ := h
  obtain ⟨w', hr, ho, hK⟩ := d1.store skLaw Tryz.underlying114 (by unfold maxLen; omega) (stkey_of hk)
  have tidy := World.ownsMap.tidy d1 skLaw
  refine ⟨w', hr, ⟨_, ho, ?_, fun u hu => ?_⟩, hK⟩
  · rw [size_put tidy]
    simp only [List.length_append, List.length_singleton]
    split <;> omega
  · by_cases e : stkey u = stkey k
    · obtain ⟨e1, e2⟩ := stkey_inj hu hk e
      rw [e1, e2, decide_eq_true (by simp), e]
      obtain ⟨kk, e3, hkl⟩ := stkey_lit hk
      rw [e3]
      exact has_put_same tidy.isMap hkl _
    · rw [has_put_other e, d3 u hu]
      have hne : ¬ (u.1, pad4c u.2) = (k.1, pad4c k.2) := fun e2 => e (by
        unfold stkey
        have : skV u = skV k := by
          unfold skV
          rw [stpV_flat, stpV_flat, flat4, flat4]
          simp only [Prod.mk.injEq] at e2
          rw [e2.1, e2.2]
        rw [this])
      by_cases h2 : (u.1, pad4c u.2) ∈ ks
      · rw [decide_eq_true h2, decide_eq_true (by simp [h2])]
      · rw [decide_eq_false h2, decide_eq_false]
        simp only [List.mem_append, List.mem_singleton, not_or]
        exact ⟨h2, hne⟩

/-- A set of pairs. -/
def MsIs (W : World) (mb : Nat) (ms : List Pr) : Prop := ∃ D, setIs W 34 mb D ∧ Maps.size D = ms.length ∧ ∀ p, PrOk p → Maps.has D (pkey (prI p)) = decide (p ∈ ms)
theorem MsIs.new (W : World) : MsIs (W.alloc (.map #[] 0)) W.heap.size [] := by
  have m1 := World.ownsMap_made (H := Unit) W Tryz.prog 34 unitElem
  exact ⟨.map [], setIs_of m1, rfl, fun k _ => rfl⟩
theorem MsIs.keep {W W' : World} {mb : Nat} {ms : List Pr} (h : MsIs W mb ms) (hb : W'.heap[mb]? = W.heap[mb]?) : MsIs W' mb ms := by
  obtain ⟨D, h1, h2, h3⟩ := h
  obtain ⟨es, clock, e1, e2⟩ := h1
  exact ⟨D, ⟨es, clock, hb.trans e1, e2⟩, h2, h3⟩
theorem MsIs.lt {W : World} {mb : Nat} {ms : List Pr} (h : MsIs W mb ms) : ∃ es clock, W.heap[mb]? = some (Obj.map es clock) := by
  obtain ⟨D, ⟨es, clock, e1, _⟩, _⟩ := h
  exact ⟨es, clock, e1⟩
theorem MsIs.len {W : World} {mb : Nat} {ms : List Pr} (h : MsIs W mb ms) (ty : TypeId) : (Builtin.len_ #[250] ty #[.map (some mb)]).run Tryz.prog W = .ok (.int .i64 (ms.length : Int)) W := by
  obtain ⟨D, d1, d2, d3⟩ := h
  have := World.ownsMap.len d1 Tryz.underlying250 ty
  rw [d2] at this
  exact this
theorem MsIs.store {W : World} {mb : Nat} {ms : List Pr} (h : MsIs W mb ms) {p : Pr} (hp : PrOk p) (hfm : ms.length < 1000000000000) :
    ∃ W2, (Instr.mapUpdate 250 (.map (some mb)) (.agg #[.int .i64 (p.1 : Int), .int .i64 (p.2 : Int)]) (.agg #[])).run Tryz.prog W = .ok () W2 ∧ MsIs W2 mb (addP ms [p]) ∧ Kept1 mb W W2 := by
  obtain ⟨D, d1, d2, d3⟩ := h
  obtain ⟨w', hr, ho, hK⟩ := d1.store pLaw Tryz.underlying250 (by unfold maxLen; omega) (pkey_of hp.p64)
  have tidy := World.ownsMap.tidy d1 pLaw
  simp only [pairV, prI] at hr
  obtain ⟨kk, e3, hkl⟩ := pkey_lit hp.p64
  refine ⟨w', hr, ⟨_, ho, ?_, fun u hu => ?_⟩, hK⟩
  · rw [size_put tidy, d3 p hp]
    by_cases hm : p ∈ ms
    · simp [addP, hm, d2]
    · simp [addP, hm, d2]
  · by_cases e : u = p
    · subst e
      have : u ∈ addP ms [u] := by by_cases hm : u ∈ ms <;> simp [addP, hm]
      rw [decide_eq_true this, e3]
      exact has_put_same tidy.isMap hkl _
    · rw [has_put_other (fun x => e (prI_inj (pkey_inj hu.p64 hp.p64 x))), d3 u hu]
      by_cases hm : p ∈ ms
      · simp [addP, hm]
      · simp [addP, hm, e]

end Go.Proofs.YtlehlgipbhfioaaGreat
