/- Package close: what changes the classes, part by part. -/
import Derived.Test.YtinphcnknionmaaG37
namespace Go.Proofs.Ytinphcnknionmaa
open Go.RowKit Go.Maps

theorem rowIs_ne {w : World} {b b' : Nat} {t t' : TypeId} {n n' : Nat} {f f' : Nat → Value} (h : w.rowIs b t n f) (h' : w.rowIs b' t' n' f') (ht : t ≠ t') : b ≠ b' := by
  rintro rfl
  obtain ⟨c, hc, _⟩ := h
  obtain ⟨c', hc', _⟩ := h'
  rw [hc] at hc'
  injection hc' with hc'
  injection hc' with _ e
  exact ht e
theorem rowIs_map {w : World} {b b' : Nat} {t k : TypeId} {n : Nat} {f : Nat → Value} {D : DataW Unit} (h : w.rowIs b t n f) (h' : mapIs w k b' D) : b ≠ b' := by
  rintro rfl
  obtain ⟨c, hc, _⟩ := h
  obtain ⟨es, ck, n1, _⟩ := h'
  rw [hc] at n1
  cases n1
theorem ownsRow_ne {w : World} {B B' s s' n n' : Nat} {e e' : TypeId} {v v' : Value} {xs xs' : List Value} (h : w.ownsRow B e s v n xs) (h' : w.ownsRow B' e' s' v' n' xs') (he : e ≠ e') {k : Nat} (hk : v.ownBlock = some k) : v'.ownBlock ≠ some k := by
  intro hk'
  rcases h.2 with ⟨r, _⟩ | ⟨b, cap, cur, r, _, hb, _⟩
  · rw [r] at hk; simp [Value.ownBlock] at hk
  · rcases h'.2 with ⟨r', _⟩ | ⟨b', cap', cur', r', _, hb', _⟩
    · rw [r'] at hk'; simp [Value.ownBlock] at hk'
    · rw [r] at hk
      rw [r'] at hk'
      simp [Value.ownBlock] at hk hk'
      subst hk
      subst hk'
      rw [hb] at hb'
      injection hb' with hb'
      injection hb' with _ e
      exact he e

/-- No two of its parts share a block. -/
structure ApartZ (z : Zs) : Prop where
  kp : z.pk ≠ z.ps
  kn : z.pk ≠ z.nb
  kj : z.jv.ownBlock ≠ some z.pk
  kt : z.pk ≠ z.tb
  ku : z.pk ≠ z.ub
  km : z.pk ≠ z.mb
  kb : z.bv.ownBlock ≠ some z.pk
  pt : z.ps ≠ z.tb
  nt : z.nb ≠ z.tb
  jt : z.jv.ownBlock ≠ some z.tb
  ut : z.ub ≠ z.tb
  mt : z.mb ≠ z.tb
  bt : z.bv.ownBlock ≠ some z.tb
  pu : z.ps ≠ z.ub
  nu : z.nb ≠ z.ub
  ju : z.jv.ownBlock ≠ some z.ub
  pm : z.ps ≠ z.mb
  nm : z.nb ≠ z.mb
  jm : z.jv.ownBlock ≠ some z.mb
  pb : z.bv.ownBlock ≠ some z.ps
  nb : z.bv.ownBlock ≠ some z.nb
  jb : ∀ k, z.jv.ownBlock = some k → z.bv.ownBlock ≠ some k
  um : z.ub ≠ z.mb
  ub : z.bv.ownBlock ≠ some z.ub
  mb : z.bv.ownBlock ≠ some z.mb

theorem Cz.apart {w : World} {base : Nat} {l : List Tm} {z : Zs} (h : Cz w base l z) : ApartZ z := by
  obtain ⟨D, d1, _⟩ := h.known
  have L := h.sets.lies
  exact ⟨rowIs_ne h.cls L.sets (by decide), rowIs_ne h.cls L.nodes (by decide), rowIs_type h.cls (by decide) L.joins, rowIs_ne h.cls h.terms (by decide), rowIs_ne h.cls h.uses (by decide), rowIs_map h.cls d1, rowIs_type h.cls (by decide) h.back,
    rowIs_ne L.sets h.terms (by decide), rowIs_ne L.nodes h.terms (by decide), rowIs_type h.terms (by decide) L.joins, rowIs_ne h.uses h.terms (by decide), (rowIs_map h.terms d1).symm, rowIs_type h.terms (by decide) h.back,
    rowIs_ne L.sets h.uses (by decide), rowIs_ne L.nodes h.uses (by decide), rowIs_type h.uses (by decide) L.joins, rowIs_map L.sets d1, rowIs_map L.nodes d1, mapIs_type d1 L.joins, rowIs_type L.sets (by decide) h.back, rowIs_type L.nodes (by decide) h.back,
    fun k hk => ownsRow_ne L.joins h.back (by decide) hk, rowIs_map h.uses d1, rowIs_type h.uses (by decide) h.back, mapIs_type d1 h.back⟩

theorem Cz.st_lt {w : World} {base : Nat} {l : List Tm} {z : Zs} (h : Cz w base l z) {x : Nat × Obj} (hx : x ∈ z.st) : x.1 < w.heap.size := (Array.getElem?_eq_some_iff.1 (h.sat x hx)).1

/-- How the parts come to change. -/
structure Grows (w : World) (z z' : Zs) : Prop where
  pk : z'.pk = z.pk
  foot : ∀ k, z'.Foot k → z.Foot k ∨ w.heap.size ≤ k
  tb : z'.tb = z.tb
  st : ∀ x ∈ z'.st, x ∈ z.st ∨ w.heap.size ≤ x.1
theorem Grows.refl (w : World) (z : Zs) : Grows w z z := ⟨rfl, fun _ h => .inl h, rfl, fun _ h => .inl h⟩
theorem Grows.trans {w w' : World} {a b c : Zs} (h : Grows w a b) (k : Grows w' b c) (hs : w.heap.size ≤ w'.heap.size) : Grows w a c :=
  ⟨k.pk.trans h.pk, fun i hi => (k.foot i hi).elim (h.foot i) (fun x => .inr (Nat.le_trans hs x)), k.tb.trans h.tb, fun x hx => (k.st x hx).elim (h.st x) (fun x => .inr (Nat.le_trans hs x))⟩
theorem Grows.all {w : World} {z z' : Zs} (h : Grows w z z') {k : Nat} (hk : z'.All k) : z.All k ∨ w.heap.size ≤ k := by
  rcases hk with e | e | ⟨o, e⟩
  · exact (h.foot k e).imp .inl id
  · exact .inl (.inr (.inl (e.trans h.tb)))
  · exact (h.st _ e).imp (fun x => .inr (.inr ⟨o, x⟩)) id

/-- One more block that never changes. -/
theorem Cz.addStat {w : World} {base : Nat} {l : List Tm} {z : Zs} (h : Cz w base l z) (x : Nat × Obj) (hx : w.heap[x.1]? = some x.2) (hb : base ≤ x.1) (hf : ¬ z.Foot x.1) : Cz w base l { z with st := z.st ++ [x] } := by
  refine ⟨h.cls, h.sets, h.terms, h.uses, h.known, h.back, ?_, ?_, fun i t ht => (h.argsAt i t ht).mono (fun y hy => List.mem_append_left _ hy), fun i hi => (h.usesAt i hi).mono (fun y hy => List.mem_append_left _ hy), h.bd, h.oks, h.len, h.bp, h.bt, h.bu, h.bm⟩
  · intro y hy
    rcases List.mem_append.1 hy with hy | hy
    · exact h.sat y hy
    · simp at hy; subst hy; exact hx
  · intro y hy
    rcases List.mem_append.1 hy with hy | hy
    · exact h.far y hy
    · simp at hy; subst hy; exact ⟨hb, hf⟩

/-- A signature becomes known. -/
theorem Cz.store {w : World} {base : Nat} {l : List Tm} {z : Zs} (h : Cz w base l z) {s : Tm} (hs : Sk s) {n : Nat} (hn : n < 100000) (hms : z.ms < 1000000) :
    ∃ w', (Instr.mapUpdate 147 (.map (some z.mb)) (sigV s) (.int .i64 (n : Int))).run Try.prog w = .ok () w' ∧ Cz w' base l { z with kn := fun u => if u = s then some n else z.kn u, ms := z.ms + 1 } ∧ Kept1 z.mb w w' := by
  obtain ⟨D, d1, d2, d3⟩ := h.known
  obtain ⟨w', hr, ho, hturn⟩ := World.ownsMap.store d1 gLaw Try.underlying147 (by unfold maxLen; omega) (gkey_of hs.ok) (plainElem_int Try.underlying3 (wf64 hn))
  have K : Kept1 z.mb w w' := Kept1.of_grown hturn.grown
  have A := h.apart
  have tidy := World.ownsMap.tidy d1 gLaw
  refine ⟨w', hr, ⟨h.cls.of_block (K.block _ h.cls.lt A.km), h.sets.other K A.pm A.nm (fun k hk e => A.jm (by rw [hk, e])), h.terms.of_block (K.block _ h.terms.lt A.mt.symm), h.uses.of_block (K.block _ h.uses.lt A.um), ⟨_, mapIs_of ho, ?_, ?_⟩,
    ownsRow_block h.back (fun k hk => K.block k (h.back.lt k hk).2 (fun e => A.mb (by rw [hk, e]))), fun x hx => (K.block x.1 (h.st_lt hx) (fun e => (h.far x hx).2 (.inr (.inr (.inr (.inl e)))))).trans (h.sat x hx), h.far, h.argsAt, h.usesAt, h.bd, h.oks, h.len, h.bp, h.bt, h.bu, h.bm⟩, K⟩
  · rw [size_put tidy]
    show _ ≤ z.ms + 1
    split <;> omega
  · intro u hu
    show Says _ (gkey u) (if u = s then some n else z.kn u)
    by_cases e : u = s
    · subst e
      rw [if_pos rfl]
      obtain ⟨kk, e, hk⟩ := gkey_lit hu.ok
      rw [e]
      exact Says.put_same tidy.isMap hk n
    · rw [if_neg e]
      exact (d3 u hu).put_other (fun x => e (gkey_inj hu hs x)) _

theorem Cz.look {w : World} {base : Nat} {l : List Tm} {z : Zs} (h : Cz w base l z) {s : Tm} (hs : Sk s) :
    (Instr.lookup 147 (.map (some z.mb)) (sigV s) true).run Try.prog w = .ok (.tuple #[.int .i64 (((z.kn s).getD 0 : Nat) : Int), .bool (z.kn s).isSome]) w := by
  obtain ⟨D, d1, d2, d3⟩ := h.known
  exact (d3 s hs).look d1 gLaw Try.underlying147 (gkey_of hs.ok)

/-- A step is kept. -/
theorem Cz.push {w wa w1 : World} {base : Nat} {l : List Tm} {z : Zs} (h : Cz w base l z) (K0 : Kept0 w wa) (f v' : Value) (hown : w1.ownsRow base 1 1 v' (z.bs.length + 1) (z.bs ++ [f])) (hgrow : wa.grownBy w1 z.bv.ownBlock)
    (hloc : v'.ownBlock = z.bv.ownBlock ∨ ∀ k, v'.ownBlock = some k → wa.heap.size ≤ k) :
    Cz (w1.setCell ⟨z.pk, 4, none⟩ v') base l { z with bv := v', bs := z.bs ++ [f] } ∧ Kept z.Foot w (w1.setCell ⟨z.pk, 4, none⟩ v') ∧ Grows w z { z with bv := v', bs := z.bs ++ [f] } ∧ w1.cell? ⟨z.pk, 4, none⟩ = some z.bv ∧ w1.frozen? ⟨z.pk, 4, none⟩ = false ∧ Kept (fun k => z.bv.ownBlock = some k) w w1 := by
  have K1 : Kept (fun k => z.bv.ownBlock = some k) w w1 := Kept.grown (Kept.mono K0 (fun _ _ e => e.elim)) hgrow (fun _ e => e)
  have K2 : Kept (fun k => k = z.pk ∨ z.bv.ownBlock = some k) w (w1.setCell ⟨z.pk, 4, none⟩ v') := Kept.setCell (p := ⟨z.pk, 4, none⟩) (Kept.mono K1 (fun _ _ e => .inr e)) (.inl rfl) _
  have A := h.apart
  have hp : w1.rowIs z.pk 150 5 (clsC z l.length) := h.cls.of_block (K1.block _ h.cls.lt A.kb)
  have np := rowIs_type hp (by decide) hown
  obtain ⟨D, d1, d2, d3⟩ := h.known
  have hfoot : ∀ k, Zs.Foot { z with bv := v', bs := z.bs ++ [f] } k → z.Foot k ∨ w.heap.size ≤ k := by
    rintro k (e | e | e | e | e)
    · exact .inl (.inl e)
    · exact .inl (.inr (.inl e))
    · exact .inl (.inr (.inr (.inl e)))
    · exact .inl (.inr (.inr (.inr (.inl e))))
    · rcases hloc with e2 | e2
      · exact .inl (.inr (.inr (.inr (.inr (e2 ▸ e)))))
      · exact .inr (Nat.le_trans K0.size (e2 k e))
  refine ⟨⟨(hp.set 4 v').congr ?_, h.sets.other K2 ?_ ?_ ?_, h.terms.of_block (K2.block _ h.terms.lt ?_), h.uses.of_block (K2.block _ h.uses.lt ?_), ⟨D, mapIs_block d1 (K2.block _ (World.ownsMap.lt d1) ?_), d2, d3⟩, ?_, ?_, ?_, h.argsAt, h.usesAt, h.bd, h.oks, h.len, h.bp, h.bt, h.bu, h.bm⟩, ?_, ⟨rfl, hfoot, rfl, fun _ hx => .inl hx⟩, hp.cell (i := 4) (by omega), hp.frozen 4, K1⟩
  · intro i hi
    rcases (by omega : i = 0 ∨ i = 1 ∨ i = 2 ∨ i = 3 ∨ i = 4) with rfl | rfl | rfl | rfl | rfl <;> simp [clsC]
  · rintro (e | e)
    · exact A.kp e.symm
    · exact A.pb e
  · rintro (e | e)
    · exact A.kn e.symm
    · exact A.nb e
  · rintro k hk (e | e)
    · exact A.kj (by rw [hk, e])
    · exact A.jb k hk e
  · rintro (e | e)
    · exact A.kt e.symm
    · exact A.bt e
  · rintro (e | e)
    · exact A.ku e.symm
    · exact A.ub e
  · rintro (e | e)
    · exact A.km e.symm
    · exact A.mb e
  · simpa using ownsRow_setCell_other hown np _
  · intro x hx
    refine (K2.block x.1 (h.st_lt hx) ?_).trans (h.sat x hx)
    rintro (e | e)
    · exact (h.far x hx).2 (.inl e)
    · exact (h.far x hx).2 (.inr (.inr (.inr (.inr e))))
  · intro x hx
    refine ⟨(h.far x hx).1, fun hk => ?_⟩
    rcases hfoot _ hk with e | e
    · exact (h.far x hx).2 e
    · have := h.st_lt hx; omega
  · refine Kept.mono K2 ?_
    rintro k _ (e | e)
    · exact .inl e
    · exact .inr (.inr (.inr (.inr e)))

theorem row_form' {w : World} {base : Nat} {e : TypeId} {size : Nat} {v : Value} {n : Nat} {xs : List Value} (h : w.ownsRow base e size v n xs) : ∃ a c, v = .slice a n c := by
  rcases h.2 with ⟨rfl, h0⟩ | ⟨b, cap, cur, rfl, _⟩
  · rw [h0]; exact ⟨none, 0, rfl⟩
  · exact ⟨_, cap, rfl⟩
theorem rowIs_obj {w : World} {b : Nat} {t : TypeId} {n : Nat} {f : Nat → Value} (h : w.rowIs b t n f) (C : Array Value) (hs : C.size = n) (hC : ∀ i, i < n → C[i]? = some (f i)) : w.heap[b]? = some (.cells C t) := by
  obtain ⟨c, h1, h2, h3⟩ := h
  have : c = C := by
    apply Array.ext_getElem?
    intro i
    by_cases hi : i < n
    · rw [h3 i hi, hC i hi]
    · rw [Array.getElem?_eq_none (by omega), Array.getElem?_eq_none (by omega)]
  rw [h1, this]
theorem one_newD (w : World) (m : Nat) (x : Value) (t : TypeId) : ∀ j u, [x][j]? = some u → ((w.drewN m).alloc (.cells #[x] t)).cell? ((⟨w.heap.size, 0, none⟩ : Addr).add j) = some u := by
  intro j u hj
  have e : ∀ k, ((w.drewN m).alloc (.cells #[x] t)).cell? ⟨w.heap.size, k, none⟩ = #[x][k]? := fun k => World.cell?_alloc_at (w := w.drewN m) _ t _ k rfl
  match j, hj with
  | 0, hj => simp at hj; subst hj; rw [show (⟨w.heap.size, 0, none⟩ : Addr).add 0 = ⟨w.heap.size, 0, none⟩ from by simp [Addr.add], e]; rfl
  | j + 1, hj => simp at hj

theorem infoStep : (Try.prog.info? 1).map (fun i => (i.zero, i.size, i.bytes)) = some (some .nilFunc, 1, 8) := by kernel_rfl

end Go.Proofs.Ytinphcnknionmaa
