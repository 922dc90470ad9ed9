/- Package logic: what makes clauses, in memory. Package logic: what makes clauses: say, both. Package logic: the parser's small functions: next, skipBlanks, must, refuse, isOfName. -/
import Derived.Test.YtinphcnknionmabP00
import Derived.Test.YtinphcnknionmabP03
import Derived.Maps.AppendAt
import Derived.Test.YtinphcnknionmabP02
namespace Go.Proofs.Ytinphcnknionmab
open Go.RowKit Go.Maps Go.ChangeShapes Go.WideShapes Go.MapKept Go.ChangeMaps Go.WideElems

/-- The number of a Pair: its place, from 1; 0 if there is none. -/
def numP (ps : List (Int × Int)) (p : Int × Int) : Nat := if p ∈ ps then ps.idxOf p + 1 else 0
theorem numP_snoc {ps : List (Int × Int)} {p : Int × Int} (h : p ∉ ps) (q : Int × Int) : numP (ps ++ [p]) q = if q = p then ps.length + 1 else numP ps q := by
  unfold numP
  by_cases e : q = p
  · subst e
    rw [if_pos (by simp), if_pos rfl, List.idxOf_append, if_neg h]
    simp
  · rw [if_neg e]
    by_cases hq : q ∈ ps
    · rw [if_pos (by simp [hq]), if_pos hq, List.idxOf_append, if_pos hq]
    · rw [if_neg (by simp [hq, e]), if_neg hq]
theorem numP_le (ps : List (Int × Int)) (p : Int × Int) : numP ps p ≤ ps.length := by
  unfold numP
  split
  · next h => exact List.idxOf_lt_length_of_mem h
  · omega

/-- The map at ab says each Pair's number. -/
def NumIs (W : World) (ab : Nat) (ps : List (Int × Int)) : Prop :=
  ∃ D, mapIs W 28 ab D ∧ Maps.size D ≤ ps.length ∧ ∀ p, P64 p → D.atKey (pkey p) (.lit (.int .i64 0)) = .lit (.int .i64 (numP ps p : Int))
theorem NumIs.new (W : World) : NumIs (W.alloc (.map #[] 0)) W.heap.size [] := by
  refine ⟨_, mapIs_of (World.ownsMap_made W Try.prog 28 (plainElem Try.prog 3)), ?_, fun p hp => ?_⟩
  · exact Nat.le_refl _
  · rfl
theorem NumIs.keep {W W' : World} {mb : Nat} {l : List (Int × Int)} (h : NumIs W mb l) (hb : W'.heap[mb]? = W.heap[mb]?) : NumIs W' mb l := by
  obtain ⟨D, h1, h2, h3⟩ := h
  obtain ⟨es, clock, e1, e2, e3, e4⟩ := h1
  exact ⟨D, ⟨es, clock, hb.trans e1, e2, e3, e4⟩, h2, h3⟩
theorem NumIs.lt {W : World} {mb : Nat} {l : List (Int × Int)} (h : NumIs W mb l) : ∃ es clock, W.heap[mb]? = some (Obj.map es clock) := by
  obtain ⟨D, ⟨es, clock, e1, _⟩, _⟩ := h
  exact ⟨es, clock, e1⟩
/-- 'atoms[p]'. -/
theorem NumIs.look {W : World} {mb : Nat} {l : List (Int × Int)} (h : NumIs W mb l) {p : Int × Int} (hp : P64 p) :
    (Instr.lookup 64 (.map (some mb)) (pairV p) false).run Try.prog W = .ok (.int .i64 (numP l p : Int)) W := by
  obtain ⟨D, h1, h2, h3⟩ := h
  obtain ⟨c, hrun, hat, _⟩ := World.ownsMap.lookup_int h1 pLaw Try.underlying64 Try.underlying3 (zeroI W) (pkey_of hp)
  rw [h3 p hp] at hat
  simp at hat
  rw [hrun, hat]
/-- 'atoms[p] = n'. -/
theorem NumIs.store {W : World} {mb : Nat} {l : List (Int × Int)} (h : NumIs W mb l) {p : Int × Int} (hp : P64 p) (hn : p ∉ l) (hl : l.length < 140737488355328) :
    ∃ W2, (Instr.mapUpdate 64 (.map (some mb)) (pairV p) (.int .i64 ((l.length + 1 : Nat) : Int))).run Try.prog W = .ok () W2 ∧ NumIs W2 mb (l ++ [p]) ∧ Kept1 mb W W2 := by
  obtain ⟨D, h1, h2, h3⟩ := h
  obtain ⟨w', hr, ho, hturn⟩ := World.ownsMap.store h1 pLaw Try.underlying64 (by unfold maxLen; omega) (pkey_of hp) (plainElem_int (H := Unit) Try.underlying3 (WalkArith.wf_i64 (n := ((l.length + 1 : Nat) : Int)) (by omega)))
  have tidy := World.ownsMap.tidy h1 pLaw
  refine ⟨w', hr, ⟨_, mapIs_of ho, ?_, fun q hq => ?_⟩, Kept1.of_grown hturn.grown⟩
  · rw [size_put tidy]
    simp only [List.length_append, List.length_singleton]
    split <;> omega
  · rw [numP_snoc hn]
    by_cases e : q = p
    · subst e
      obtain ⟨kk, e, hk⟩ := pkey_lit hq
      rw [e, atKey_put_same tidy.isMap hk]
      simp
    · rw [atKey_put_other (fun x => e (pkey_inj hq hp x)), h3 q hq, if_neg e]

abbrev Sc := Nat × List (List Int)
def mkC (ab : Nat) (n : Nat) (rv : Value) : Nat → Value := fun j => if j = 0 then .map (some ab) else if j = 1 then .int .i64 (n : Int) else rv

/-- A maker in the blocks S. -/
structure Mk (S : Nat → Prop) (W : World) (mb ab : Nat) (ps : List (Int × Int)) (rv : Value) (st : Sc) : Prop where
  lt : ∀ k, S k → k < W.heap.size
  smb : S mb
  sab : S ab
  srv : ∀ k, rv.ownBlock = some k → S k
  cells : W.rowIs mb 69 3 (mkC ab st.1 rv)
  map : NumIs W ab ps
  rows : ∃ rs : List Value, W.ownsRow 0 27 1 rv rs.length rs ∧ rs.length = st.2.length ∧ ∀ (i : Nat) (c : List Int), st.2[i]? = some c → ∃ g cap, rs[i]? = some (.slice (some ⟨g, 0, none⟩) c.length cap) ∧ S g ∧ Rw W g c

theorem ownsRow_block {W W' : World} {base size k : Nat} {ty : TypeId} {v : Value} {xs : List Value} (h : W.ownsRow base ty size v k xs) (hb : ∀ b, v.ownBlock = some b → W'.heap[b]? = W.heap[b]?) : W'.ownsRow base ty size v k xs := by
  refine ⟨h.1, ?_⟩
  rcases h.2 with e | ⟨g, cap, cur, e, e1, e2, e3⟩
  · exact Or.inl e
  · exact Or.inr ⟨g, cap, cur, e, e1, (hb g (by rw [e]; rfl)).trans e2, e3⟩
theorem Mk.keep {S : Nat → Prop} {W W' : World} {mb ab : Nat} {ps : List (Int × Int)} {rv : Value} {st : Sc} (h : Mk S W mb ab ps rv st) (hs : W.heap.size ≤ W'.heap.size) (hb : ∀ k, S k → W'.heap[k]? = W.heap[k]?) : Mk S W' mb ab ps rv st := by
  obtain ⟨rs, h1, h2, h3⟩ := h.rows
  refine ⟨fun k hk => Nat.lt_of_lt_of_le (h.lt k hk) hs, h.smb, h.sab, h.srv, h.cells.of_block (hb _ h.smb), h.map.keep (hb _ h.sab), rs, ownsRow_block h1 (fun b e => hb b (h.srv b e)), h2, fun i c hi => ?_⟩
  obtain ⟨g, cap, q1, q2, q3⟩ := h3 i c hi
  exact ⟨g, cap, q1, q2, q3.block (hb g q2)⟩
theorem Mk.wider {S S' : Nat → Prop} {W : World} {mb ab : Nat} {ps : List (Int × Int)} {rv : Value} {st : Sc} (h : Mk S W mb ab ps rv st) (hS : ∀ k, S k → S' k) (hl : ∀ k, S' k → k < W.heap.size) : Mk S' W mb ab ps rv st := by
  obtain ⟨rs, h1, h2, h3⟩ := h.rows
  refine ⟨hl, hS _ h.smb, hS _ h.sab, fun k e => hS _ (h.srv k e), h.cells, h.map, rs, h1, h2, fun i c hi => ?_⟩
  obtain ⟨g, cap, q1, q2, q3⟩ := h3 i c hi
  exact ⟨g, cap, q1, hS _ q2, q3⟩

/-- What a maker's step leaves: other blocks than its own and its row of clauses stay. -/
structure MadeX (S : Nat → Prop) (w : World) (rv : Value) (S' : Nat → Prop) (w' : World) (rv' : Value) (mb ab : Nat) (ps : List (Int × Int)) (st' : Sc) : Prop where
  is : Mk S' w' mb ab ps rv' st'
  new : ∀ k, S' k → S k ∨ w.heap.size ≤ k
  at_ : rv'.ownBlock = rv.ownBlock ∨ ∀ k, rv'.ownBlock = some k → w.heap.size ≤ k
  kept : Kept (fun k => k = mb ∨ rv.ownBlock = some k) w w'
def Made (S : Nat → Prop) (w w' : World) (mb ab : Nat) (ps : List (Int × Int)) (rv : Value) (st' : Sc) : Prop := ∃ S' rv', MadeX S w rv S' w' rv' mb ab ps st'

theorem MadeX.trans {S S1 S2 : Nat → Prop} {w w1 w2 : World} {mb ab : Nat} {ps : List (Int × Int)} {rv rv1 rv2 : Value} {st1 st2 : Sc} (h1 : MadeX S w rv S1 w1 rv1 mb ab ps st1) (h2 : MadeX S1 w1 rv1 S2 w2 rv2 mb ab ps st2) : MadeX S w rv S2 w2 rv2 mb ab ps st2 := by
  have z1 := h1.kept.size
  refine ⟨h2.is, fun k hk => ?_, ?_, ?_⟩
  · rcases h2.new k hk with e | e
    · exact h1.new k e
    · exact Or.inr (by omega)
  · rcases h2.at_ with e | e
    · rw [e]; exact h1.at_
    · exact Or.inr (fun k hk => by have := e k hk; omega)
  · refine ⟨h2.kept.os.trans h1.kept.os, h2.kept.tape.trans h1.kept.tape, h2.kept.output.trans h1.kept.output, Nat.le_trans z1 h2.kept.size, fun k hk hn => ?_⟩
    refine (h2.kept.block k (Nat.lt_of_lt_of_le hk z1) ?_).trans (h1.kept.block k hk hn)
    rintro (e | e)
    · exact hn (Or.inl e)
    · rcases h1.at_ with e1 | e1
      · exact hn (Or.inr (by rw [← e1]; exact e))
      · have := e1 k e; omega

theorem infoInts : (Try.prog.info? 27).map (fun i => (i.zero, i.size, i.bytes)) = some (some (.slice none 0 0), 1, 24) := by kernel_rfl

set_option maxRecDepth 100000 in
set_option maxHeartbeats 2000000 in
theorem variable_in (w : World) (S : Nat → Prop) (mb ab : Nat) (ps : List (Int × Int)) (rv : Value) (st : Sc) (h : Mk S w mb ab ps rv st) (hs : st.1 ≤ 1099511627776) :
    Calls Try.prog 28 #[.pointer (some ⟨mb, 0, none⟩)] w fun e w' => e = .returned (.int .i64 ((st.1 + 1 : Nat) : Int)) ∧ Mk S w' mb ab ps rv (st.1 + 1, st.2) ∧ Kept (fun k => k = mb) w w' := by
  have c1 : w.cell? ⟨mb, 1, none⟩ = some (.int .i64 (st.1 : Int)) := h.cells.cell (i := 1) (by omega)
  have f1 := h.cells.frozen 1
  have HM : Hid (Mk S (w.setCell ⟨mb, 1, none⟩ (.int .i64 ((st.1 : Int) + 1))) mb ab ps rv (st.1 + 1, st.2) ∧ Kept (fun k => k = mb) w (w.setCell ⟨mb, 1, none⟩ (.int .i64 ((st.1 : Int) + 1)))) := by
    have K : Kept (fun k => k = mb) w (w.setCell ⟨mb, 1, none⟩ (.int .i64 ((st.1 : Int) + 1))) := Kept.setCell (S := fun k => k = mb) (Kept.refl _ w) (p := ⟨mb, 1, none⟩) rfl _
    obtain ⟨rs, h1, h2, h3⟩ := h.rows
    have nb : ∀ k, k < w.heap.size → k ≠ mb → (w.setCell ⟨mb, 1, none⟩ (.int .i64 ((st.1 : Int) + 1))).heap[k]? = w.heap[k]? := fun k hk hne => K.block k hk hne
    refine ⟨⟨fun k hk => Nat.lt_of_lt_of_le (h.lt k hk) K.size, h.smb, h.sab, h.srv, ?_, h.map.keep (nb _ (h.lt _ h.sab) ?_), rs, ownsRow_block h1 (fun b e => nb b (h.lt _ (h.srv b e)) ?_), h2, fun i c hi => ?_⟩, K⟩
    · refine (h.cells.set 1 _).congr (fun j hj => ?_)
      unfold mkC
      by_cases e : j = 1
      · subst e; simp
      · simp [e]
    · rintro rfl
      obtain ⟨es, ck, e⟩ := h.map.lt
      obtain ⟨c, hc, _⟩ := h.cells
      rw [e] at hc
      cases hc
    · rintro rfl
      exact rowIs_type h.cells (by decide) h1 e
    · obtain ⟨g, cap, q1, q2, q3⟩ := h3 i c hi
      refine ⟨g, cap, q1, q2, q3.block (nb g (h.lt _ q2) ?_)⟩
      rintro rfl
      obtain ⟨N, F, _, ⟨c1, hc1, _⟩, _⟩ := q3
      obtain ⟨c2, hc2, _⟩ := h.cells
      rw [hc1] at hc2
      injection hc2 with hc2
      injection hc2 with _ hc2
      exact absurd hc2 (by decide)
  have d1 : IntKind.i64.wrap ((st.1 : Int) + 1) = (st.1 : Int) + 1 := by rw [IntKind.wrap_i64]; omega
  clear h
  go_enter Try.func28, Try.ntmps28
  go_wp2_with fail
  go_ret
  exact ⟨by simp, HM.out⟩

end Go.Proofs.Ytinphcnknionmab

namespace Go.Proofs.Ytinphcnknionmab
open Go.RowKit Go.Maps

theorem cell_oneV (w : World) (a : Value) (ty : TypeId) : ∀ j u, [a][j]? = some u → (w.alloc (.cells #[a] ty)).cell? ((⟨w.heap.size, 0, none⟩ : Addr).add j) = some u := by
  intro j u hj
  have hn := made_row w #[a] ty
  match j, hj with
  | 0, hj => simp at hj; subst hj; exact hn.cell (i := 0) (by simp)

theorem row_formM {w : World} {base : Nat} {e : TypeId} {size : Nat} {v : Value} {n : Nat} {xs : List Value} (h : w.ownsRow base e size v n xs) : ∃ a c, v = .slice a n c := by
  rcases h.2 with ⟨rfl, h0⟩ | ⟨b, cap, cur, rfl, _⟩
  · rw [h0]; exact ⟨none, 0, rfl⟩
  · exact ⟨_, cap, rfl⟩

/-- A clause more. -/
theorem Mk.said {S : Nat → Prop} {w w8 : World} {O : Obj} {mb ab : Nat} {ps : List (Int × Int)} {rv v8 : Value} {st : Sc} (h : Mk S w mb ab ps rv st) {rs : List Value} {g cap : Nat} {c : List Int} (hrs : rs.length = st.2.length ∧ ∀ (i : Nat) (c : List Int), st.2[i]? = some c → ∃ g cap, rs[i]? = some (.slice (some ⟨g, 0, none⟩) c.length cap) ∧ S g ∧ Rw w g c)
    (hg : Rw w g c) (hgS : ¬ S g) (hrow : w.ownsRow 0 27 1 rv rs.length rs) (hown : w8.ownsRow 0 27 1 v8 (rs.length + 1) (rs ++ [.slice (some ⟨g, 0, none⟩) c.length cap])) (hgrow : (w.alloc O).grownBy w8 rv.ownBlock) (hat : v8.ownBlock = rv.ownBlock ∨ v8.ownBlock = some (w.alloc O).heap.size) :
    Mk (fun k => S k ∨ k = g ∨ v8.ownBlock = some k) (w8.setCell ⟨mb, 2, none⟩ v8) mb ab ps v8 (st.1, st.2 ++ [c]) ∧ Kept (fun k => k = mb ∨ rv.ownBlock = some k) w (w8.setCell ⟨mb, 2, none⟩ v8) ∧ (v8.ownBlock = rv.ownBlock ∨ ∀ k, v8.ownBlock = some k → w.heap.size ≤ k) := by
  have hne : rv.ownBlock ≠ some mb := rowIs_type h.cells (by decide) hrow
  have K8 : Kept (fun k => k = mb ∨ rv.ownBlock = some k) w w8 := Kept.grown ((Kept.refl _ w).alloc O) hgrow (fun k e => Or.inr e)
  have hc8 : w8.rowIs mb 69 3 (mkC ab st.1 rv) := h.cells.of_block ((hgrow.block _ (by simp; have := h.cells.lt; omega) (fun e => hne e.symm)).trans (Below.heap_alloc w O _ h.cells.lt))
  have hne8 : v8.ownBlock ≠ some mb := rowIs_type hc8 (by decide) hown
  have K9 : Kept (fun k => k = mb ∨ rv.ownBlock = some k) w (w8.setCell ⟨mb, 2, none⟩ v8) := K8.setCell (p := ⟨mb, 2, none⟩) (Or.inl rfl) v8
  have nb : ∀ k, k < w.heap.size → k ≠ mb → rv.ownBlock ≠ some k → (w8.setCell ⟨mb, 2, none⟩ v8).heap[k]? = w.heap[k]? := fun k hk h1 h2 => K9.block k hk (by rintro (e | e); exact h1 e; exact h2 e)
  have rwk : ∀ {g : Nat} {c : List Int}, Rw w g c → Rw (w8.setCell ⟨mb, 2, none⟩ v8) g c := fun {g c} hr => by
    refine hr.block (nb g hr.lt ?_ ?_)
    · rintro rfl
      obtain ⟨N, F, _, ⟨c1, hc1, _⟩, _⟩ := hr
      obtain ⟨c2, hc2, _⟩ := h.cells
      rw [hc1] at hc2
      injection hc2 with hc2
      injection hc2 with _ hc2
      exact absurd hc2 (by decide)
    · obtain ⟨N, F, _, hr2, _⟩ := hr
      exact rowIs_type hr2 (by decide) hrow
  have hlt8 : ∀ k, v8.ownBlock = some k → k < w8.heap.size := fun k hk => by
    rcases hown.2 with ⟨e, _⟩ | ⟨g', cap', cur, e, e1, e2, _⟩
    · rw [e] at hk; simp [Value.ownBlock] at hk
    · rw [e] at hk
      simp [Value.ownBlock] at hk
      subst hk
      exact (Array.getElem?_eq_some_iff.1 e2).1
  have hsz : (w8.setCell ⟨mb, 2, none⟩ v8).heap.size = w8.heap.size := by simp [World.setCell]
  refine ⟨⟨fun k hk => ?_, Or.inl h.smb, Or.inl h.sab, fun k e => Or.inr (Or.inr e), ?_, ?_, rs ++ [.slice (some ⟨g, 0, none⟩) c.length cap], ?_, by simp [hrs.1], fun i c' hi => ?_⟩, K9, ?_⟩
  · rcases hk with e | rfl | e
    · exact Nat.lt_of_lt_of_le (h.lt k e) K9.size
    · exact Nat.lt_of_lt_of_le hg.lt K9.size
    · rw [hsz]; exact hlt8 k e
  · refine (hc8.set 2 v8).congr (fun j hj => ?_)
    unfold mkC
    by_cases e : j = 2
    · subst e; simp
    · rw [if_neg e]
      have : j = 0 ∨ j = 1 := by omega
      rcases this with rfl | rfl <;> simp
  · refine h.map.keep (nb ab (h.lt _ h.sab) ?_ ?_)
    · rintro rfl
      obtain ⟨es, ck, e⟩ := h.map.lt
      obtain ⟨c, hc, _⟩ := h.cells
      rw [e] at hc
      cases hc
    · intro e
      obtain ⟨es, ck, e'⟩ := h.map.lt
      rcases hrow.2 with ⟨e1, _⟩ | ⟨g', cap', cur, e1, _, e2, _⟩
      · rw [e1] at e; simp [Value.ownBlock] at e
      · rw [e1] at e
        simp [Value.ownBlock] at e
        subst e
        rw [e'] at e2
        cases e2
  · have := ownsRow_setCell_other (a := ⟨mb, 2, none⟩) hown hne8 v8
    simpa using this
  · by_cases hil : i < st.2.length
    · rw [List.getElem?_append_left hil] at hi
      obtain ⟨g', cap', q1, q2, q3⟩ := hrs.2 i c' hi
      exact ⟨g', cap', by rw [List.getElem?_append_left (by omega)]; exact q1, Or.inl q2, rwk q3⟩
    · rw [List.getElem?_append_right (by omega)] at hi
      have hi0 : i - st.2.length = 0 := by
        have := (List.getElem?_eq_some_iff.1 hi).1
        simp at this
        omega
      rw [hi0] at hi
      simp at hi
      subst hi
      refine ⟨g, cap, by rw [List.getElem?_append_right (by omega), hrs.1, hi0]; rfl, Or.inr (Or.inl rfl), rwk hg⟩
  · rcases hat with e | e
    · exact Or.inl e
    · refine Or.inr (fun k hk => ?_)
      rw [e] at hk
      cases hk
      simp

set_option maxRecDepth 100000 in
set_option maxHeartbeats 2000000 in
theorem say_in (w : World) (S : Nat → Prop) (mb ab : Nat) (ps : List (Int × Int)) (rv : Value) (st : Sc) (h : Mk S w mb ab ps rv st) (hs : st.2.length ≤ 1099511627776) (g cap : Nat) (c : List Int) (hg : Rw w g c) (hgS : ¬ S g) :
    Calls Try.prog 29 #[.pointer (some ⟨mb, 0, none⟩), .slice (some ⟨g, 0, none⟩) c.length cap] w fun e w' => e = .returned (.tuple #[]) ∧ ∃ S' rv', Mk S' w' mb ab ps rv' (st.1, st.2 ++ [c]) ∧ (∀ k, S' k → S k ∨ k = g ∨ w.heap.size ≤ k) ∧ (rv'.ownBlock = rv.ownBlock ∨ ∀ k, rv'.ownBlock = some k → w.heap.size ≤ k) ∧ Kept (fun k => k = mb ∨ rv.ownBlock = some k) w w' := by
  obtain ⟨rs, h1, h2, h3⟩ := h.rows
  obtain ⟨va, vc, hv⟩ := row_formM h1
  subst hv
  have c2 : w.cell? ⟨mb, 2, none⟩ = some (.slice va rs.length vc) := h.cells.cell (i := 2) (by omega)
  have f2 := h.cells.frozen 2
  obtain ⟨i0, hi0, hz0, hz1, hz2⟩ := info_parts infoInts
  have HM : Hid (_ ∧ _) := And.intro h (And.intro h2 h3)
  have HSV : Hid (_) := h.srv
  have hmb := h.cells.lt
  have hne : (Value.slice va rs.length vc).ownBlock ≠ some mb := rowIs_type h.cells (by decide) h1
  have HR : Hid (_ ∧ _) := And.intro hg hgS
  have hrl : rs.length ≤ 1099511627776 := by omega
  clear h h2 h3 hg hgS
  go_enter Try.func29, Try.ntmps29
  go_wp2_with (first | (at_builtin; refine Aside.out ?_))
  delta Aside
  refine wpList_append_own_at _ rfl _ _ 43 rfl 0 27 i0 _ 1 24 Try.underlying43 hi0 hz0 hz1 hz2 rfl (by decide) _ _ _ rfl (h1.alloc _) ⟨_, 0, none⟩ 1 1 [.slice (some ⟨g, 0, none⟩) c.length cap] rfl rfl (cell_oneV w _ _) (by simp [Value.oneCell']) (by unfold maxLen; omega) (by omega) (by simp) ?_
  intro v8 w8 hown8 hgrow8 _ hat8
  have hb8 : w8.heap[mb]? = w.heap[mb]? := (hgrow8.block _ (by simp; omega) (fun e => hne e.symm)).trans (Below.heap_alloc w _ _ hmb)
  have d2 : w8.cell? ⟨mb, 2, none⟩ = some (.slice va rs.length vc) := (World.cell?_of_block (a := ⟨mb, 2, none⟩) hb8).trans c2
  have e2 : w8.frozen? ⟨mb, 2, none⟩ = false := (World.frozen?_of_block (a := ⟨mb, 2, none⟩) hb8).trans f2
  obtain ⟨g8, cap8, hv8⟩ := ownsRow_succ hown8
  have HF : Hid (_ ∧ _ ∧ _) := HM.out.1.said HM.out.2 HR.out.1 HR.out.2 h1 hown8 hgrow8 hat8
  subst hv8
  clear hown8 hgrow8 hat8 HM HR h1
  go_wp2_with fail
  refine ⟨rfl, .tuple #[], by simp [results, Try.results29], ?_⟩
  obtain ⟨m1, m2, m3⟩ := HF.out
  refine ⟨rfl, _, _, m1, fun k hk => ?_, m3, m2⟩
  rcases hk with e | e | e
  · exact Or.inl e
  · exact Or.inr (Or.inl e)
  · rcases m3 with e' | e'
    · rw [e'] at e
      exact Or.inl (HSV.out k e)
    · exact Or.inr (Or.inr (e' k e))

/-- A clause of fresh literals. -/
theorem rw_new (w : World) (c : List Int) (ty : TypeId) (hty : ty = 3) : Rw (w.alloc (.cells (c.map (fun x => Value.int .i64 x)).toArray ty)) w.heap.size c := by
  subst hty
  have hn := made_row w (c.map (fun x => Value.int .i64 x)).toArray 3
  exact ⟨_, _, by simp, hn, fun j x hj => by simp [hj]⟩

/-- say, of literals that were laid just now. -/
theorem Made.say {S : Nat → Prop} {w : World} {mb ab : Nat} {ps : List (Int × Int)} {rv : Value} {st : Sc} (h : Mk S w mb ab ps rv st) (hs : st.2.length ≤ 1099511627776) (cap : Nat) (c : List Int) :
    Calls Try.prog 29 #[.pointer (some ⟨mb, 0, none⟩), .slice (some ⟨w.heap.size, 0, none⟩) c.length cap] (w.alloc (.cells (c.map (fun x => Value.int .i64 x)).toArray 3)) fun e w' => e = .returned (.tuple #[]) ∧ Made S w w' mb ab ps rv (st.1, st.2 ++ [c]) := by
  have h2 : Mk S (w.alloc (.cells (c.map (fun x => Value.int .i64 x)).toArray 3)) mb ab ps rv st := h.keep (by simp) (fun k hk => Below.heap_alloc w _ k (h.lt k hk))
  refine (say_in _ S mb ab ps rv st h2 hs w.heap.size cap c (rw_new w c _ rfl) (fun hS => absurd (h.lt _ hS) (by omega))).mono ?_
  rintro e w' ⟨rfl, S', rv', m1, m2, m3, m4⟩
  refine ⟨rfl, S', rv', m1, fun k hk => ?_, m3.imp id (fun e k hk => ?_), ((Kept.refl _ w).alloc _).trans m4⟩
  · rcases m2 k hk with e | e | e
    · exact Or.inl e
    · exact Or.inr (by omega)
    · exact Or.inr (by simp at e; omega)
  · have := e k hk
    simp at this
    omega

set_option maxRecDepth 100000 in
set_option maxHeartbeats 2000000 in
theorem both_in (w : World) (S : Nat → Prop) (mb ab : Nat) (ps : List (Int × Int)) (rv : Value) (st : Sc) (h : Mk S w mb ab ps rv st) (hs : st.1 ≤ 1099511627776) (hs2 : st.2.length ≤ 1073741824) (p q : Int) (hp : p.natAbs ≤ 1099511627776) (hq : q.natAbs ≤ 1099511627776) :
    Calls Try.prog 45 #[.pointer (some ⟨mb, 0, none⟩), .int .i64 p, .int .i64 q] w fun e w' => e = .returned (.int .i64 ((st.1 + 1 : Nat) : Int)) ∧ Made S w w' mb ab ps rv (st.1 + 1, st.2 ++ [[-((st.1 + 1 : Nat) : Int), p], [-((st.1 + 1 : Nat) : Int), q], [((st.1 + 1 : Nat) : Int), -p, -q]]) := by
  have V := variable_in w S mb ab ps rv st h hs
  have SY : ∀ (S : Nat → Prop) (w : World) (rv : Value) (st : Sc), Mk S w mb ab ps rv st → st.2.length ≤ 1099511627776 → ∀ (cap : Nat) (c : List Int), Calls Try.prog 29 #[.pointer (some ⟨mb, 0, none⟩), .slice (some ⟨w.heap.size, 0, none⟩) c.length cap] (w.alloc (.cells (c.map (fun x => Value.int .i64 x)).toArray 3)) fun e w' => e = .returned (.tuple #[]) ∧ Made S w w' mb ab ps rv (st.1, st.2 ++ [c]) := fun S w rv st h hs cap c => Made.say h hs cap c
  have HSY : Hid _ := SY
  have HS : Hid (S mb ∧ mb < w.heap.size) := ⟨h.smb, h.cells.lt⟩
  have e1 : IntKind.i64.wrap (-(((st.1 + 1 : Nat) : Int))) = -((st.1 + 1 : Nat) : Int) := by rw [IntKind.wrap_i64]; omega
  have e2 : IntKind.i64.wrap (-p) = -p := by rw [IntKind.wrap_i64]; omega
  have e3 : IntKind.i64.wrap (-q) = -q := by rw [IntKind.wrap_i64]; omega
  generalize hx : ((st.1 + 1 : Nat) : Int) = x at *
  obtain ⟨n, cs⟩ := st
  simp only at *
  clear SY h hx hs
  go_enter Try.func45, Try.ntmps45
  go_wp2_with (first | (go_at_call 28; refine V.mono ?_; rintro e w1 ⟨rfl, M1, K1⟩; refine Aside.out ?_))
  delta Aside
  have A1 : MadeX S w rv S w1 rv mb ab ps (n + 1, cs) := ⟨M1, fun k hk => Or.inl hk, Or.inl rfl, K1.mono (fun _ _ e => Or.inl e)⟩
  have Y1 := HSY.out S w1 rv _ M1 (by simp; omega) 2 [-x, p]
  clear M1 K1 V
  apply_assumption
  go_wp2_with (first | (go_at_call 29; refine Y1.mono ?_; rintro e w2 ⟨rfl, M2⟩; refine Aside.out ?_))
  delta Aside
  obtain ⟨S2, rv2, X2⟩ := M2
  have A2 := A1.trans X2
  have Y2 := HSY.out S2 w2 rv2 _ X2.is (by simp; omega) 2 [-x, q]
  clear A1 X2 Y1
  apply_assumption
  go_wp2_with (first | (go_at_call 29; refine Y2.mono ?_; rintro e w3 ⟨rfl, M3⟩; refine Aside.out ?_))
  delta Aside
  obtain ⟨S3, rv3, X3⟩ := M3
  have A3 := A2.trans X3
  have Y3 := HSY.out S3 w3 rv3 _ X3.is (by simp; omega) 3 [x, -p, -q]
  clear A2 X3 Y2
  apply_assumption
  go_wp2_with (first | (go_at_call 29; refine Y3.mono ?_; rintro e w4 ⟨rfl, M4⟩))
  go_ret
  obtain ⟨S4, rv4, X4⟩ := M4
  have A4 := A3.trans X4
  simp only [List.append_assoc, List.cons_append, List.nil_append] at A4
  exact ⟨rfl, S4, rv4, A4⟩

end Go.Proofs.Ytinphcnknionmab

namespace Go.Proofs.Ytinphcnknionmab
open Go.RowKit

def parserC (bp : Value) (s : ByteArray) (i d : Nat) (j : Nat) : Value := if j = 0 then bp else if j = 1 then .string s else if j = 2 then .int .i64 (i : Int) else .int .u64 (d : Int)

/-- A parser at block r: at byte i, within d brackets and signs. -/
structure Lp (w : World) (r : Nat) (bp : Value) (s : ByteArray) (i d : Nat) : Prop where
  row : w.rowIs r 87 4 (parserC bp s i d)
  le : i ≤ s.size
  small : s.size ≤ 400

theorem Lp.c0 {w : World} {r : Nat} {bp : Value} {s : ByteArray} {i d : Nat} (h : Lp w r bp s i d) : w.cell? ⟨r, 0, none⟩ = some bp := h.row.cell (by omega)
theorem Lp.c1 {w : World} {r : Nat} {bp : Value} {s : ByteArray} {i d : Nat} (h : Lp w r bp s i d) : w.cell? ⟨r, 1, none⟩ = some (.string s) := h.row.cell (i := 1) (by omega)
theorem Lp.c2 {w : World} {r : Nat} {bp : Value} {s : ByteArray} {i d : Nat} (h : Lp w r bp s i d) : w.cell? ⟨r, 2, none⟩ = some (.int .i64 (i : Int)) := h.row.cell (i := 2) (by omega)
theorem Lp.c3 {w : World} {r : Nat} {bp : Value} {s : ByteArray} {i d : Nat} (h : Lp w r bp s i d) : w.cell? ⟨r, 3, none⟩ = some (.int .u64 (d : Int)) := h.row.cell (i := 3) (by omega)
theorem Lp.drewN {w : World} {r : Nat} {bp : Value} {s : ByteArray} {i d : Nat} (h : Lp w r bp s i d) (m : Nat) : Lp (w.drewN m) r bp s i d := ⟨h.row, h.le, h.small⟩
theorem Lp.step {w : World} {r : Nat} {bp : Value} {s : ByteArray} {i d : Nat} (h : Lp w r bp s i d) {k : Nat} (hk : k ≤ s.size) : Lp (w.setCell ⟨r, 2, none⟩ (.int .i64 (k : Int))) r bp s k d :=
  ⟨(h.row.set 2 _).congr (fun j hj => by
    rcases (by omega : j = 0 ∨ j = 1 ∨ j = 2 ∨ j = 3) with rfl | rfl | rfl | rfl <;> simp [parserC]), hk, h.small⟩
theorem Lp.deep {w : World} {r : Nat} {bp : Value} {s : ByteArray} {i d : Nat} (h : Lp w r bp s i d) (e : Nat) : Lp (w.setCell ⟨r, 3, none⟩ (.int .u64 (e : Int))) r bp s i e :=
  ⟨(h.row.set 3 _).congr (fun j hj => by
    rcases (by omega : j = 0 ∨ j = 1 ∨ j = 2 ∨ j = 3) with rfl | rfl | rfl | rfl <;> simp [parserC]), h.le, h.small⟩
theorem Lp.of_block {w w' : World} {r : Nat} {bp : Value} {s : ByteArray} {i d : Nat} (h : Lp w r bp s i d) (hb : w'.heap[r]? = w.heap[r]?) : Lp w' r bp s i d := ⟨h.row.of_block hb, h.le, h.small⟩

set_option maxHeartbeats 1000000 in
/-- The byte that stands here; 0 at the end. -/
theorem next_in (w : World) (r : Nat) (bp : Value) (s : ByteArray) (i d : Nat) (h : Lp w r bp s i d) :
    Calls Try.prog 57 #[.pointer (some ⟨r, 0, none⟩)] w fun e w' => e = .returned (.int .u8 (byt s i : Int)) ∧ ∃ m, w' = w.drewN m := by
  have hs := h.small
  have c1 := h.c1
  have c2 := h.c2
  have hle := h.le
  clear h
  go_enter Try.func57, Try.ntmps57
  by_cases h1 : i < s.size
  · have d2 : ((i : Int) == (s.size : Int)) = false := by simp; omega
    have e2 := byt_lt h1
    go_wp2_with fail
    go_quiet (fail)
    go_wp2_with fail
    go_quiet (fail)
    go_wp2_with fail
    go_ret
    refine ⟨?_, _, World.drewN_drewN _ _ _⟩
    rw [← e2]
    rfl
  · have d2 : ((i : Int) == (s.size : Int)) = true := by simp; omega
    have e2 : byt s i = 0 := by simp [byt, h1]
    go_wp2_with fail
    go_quiet (fail)
    go_wp2_with fail
    go_ret
    exact ⟨by rw [e2]; rfl, _, rfl⟩

theorem next_k (w : World) (r : Nat) (bp : Value) (s : ByteArray) (i d : Nat) (h : Lp w r bp s i d) :
    Calls Try.prog 57 #[.pointer (some ⟨r, 0, none⟩)] w fun e w' => e = .returned (.int .u8 (byt s i : Int)) ∧ Kept0 w w' :=
  (next_in w r bp s i d h).mono fun _ _ ⟨h1, m, h2⟩ => ⟨h1, h2 ▸ (Kept.refl _ w).drewN m⟩

theorem Lp.kept0 {w w' : World} {r : Nat} {bp : Value} {s : ByteArray} {i d : Nat} (h : Lp w r bp s i d) (K : Kept0 w w') : Lp w' r bp s i d := h.of_block (K.block _ h.row.lt (fun e => e))

set_option maxHeartbeats 1000000 in
theorem gblanks_in (w : World) (r : Nat) (bp : Value) (s : ByteArray) (i d : Nat) (h : Lp w r bp s i d) :
    Calls Try.prog 49 #[.pointer (some ⟨r, 0, none⟩)] w fun e w' => e = .returned (.tuple #[]) ∧ Lp w' r bp s (bl s i) d ∧ Kept1 r w w' := by
  go_enter Try.func49, Try.ntmps49
  go_wp2_with fail
  go_loopw [] (fun W => ∃ k : Nat, Lp W r bp s k d ∧ Hid (bl s k = bl s i) ∧ Hid (Kept1 r w W)) (fun W => s.size - (match W.cell? ⟨r, 2, none⟩ with | some v => (intOf v).toNat | none => 0))
  case atStart => exact ⟨i, h, rfl, Kept.refl _ w⟩
  case round =>
    obtain ⟨k, hR, hb, hK⟩ := hrel
    have NX := next_k wr r bp s k d hR
    have hle := hR.le
    have hsm := hR.small
    have c2r := hR.c2
    by_cases h1 : k < s.size ∧ byt s k = 32
    · rw [h1.2] at NX
      have STP : Hid (∀ W, Kept0 wr W → Lp (W.setCell ⟨r, 2, none⟩ (.int .i64 ((k : Int) + 1))) r bp s (k + 1) d) := fun W K => by
        have := (hR.kept0 K).step (k := k + 1) (by omega)
        simpa using this
      have HC : Hid (∀ W, Kept0 wr W → W.cell? ⟨r, 2, none⟩ = some (.int .i64 (k : Int)) ∧ W.frozen? ⟨r, 2, none⟩ = false) := fun W K => ⟨(hR.kept0 K).c2, (hR.kept0 K).row.frozen 2⟩
      have hb2 : Hid (bl s (k + 1) = bl s i) := (bl_at h1.1 h1.2).symm.trans hb
      have HC2 : Hid (wr.cell? ⟨r, 2, none⟩ = some (.int .i64 (k : Int))) := c2r
      have hk1 : k < s.size := h1.1
      clear hR h1 hb c2r
      go_wp2_with (go_at_call 57; refine NX.mono ?_; rintro e w3 ⟨rfl, K3⟩; obtain ⟨c2, f2⟩ := HC.out w3 K3)
      refine ⟨⟨k + 1, STP.out w3 K3, hb2, Kept1.set (hK.out.trans (Kept.mono K3 (fun _ _ e => e.elim))) _ _⟩, ?_⟩
      rw [(STP.out w3 K3).c2, HC2.out]
      simp only [intOf]
      omega
    · have e : bl s i = k := hb.symm.trans (bl_end h1)
      have hne : ¬ byt s k = 32 := fun e2 => by
        by_cases h2 : k < s.size
        · exact h1 ⟨h2, e2⟩
        · simp [byt, h2] at e2
      have dne : ((byt s k : Int) == 32) = false := by simp; omega
      have HR : Hid (_ ∧ _) := And.intro hR hK.out
      clear hR hb hK h1 c2r
      generalize byt s k = bk at *
      go_wp2_with (go_at_call 57; refine NX.mono ?_; rintro e w3 ⟨rfl, K3⟩)
      go_end0
      exact ⟨rfl, by rw [e]; exact HR.out.1.kept0 K3, HR.out.2.trans (Kept.mono K3 (fun _ _ e => e.elim))⟩

/-- What refuse panics with. -/
def grefusalV (e p : Int) : Value := .iface 109 (.agg #[.int .i64 e, .int .i64 p])

set_option maxHeartbeats 400000 in
theorem grefuse_any (w : World) (e p : Int) :
    Calls Try.prog 51 #[.int .i64 e, .int .i64 p] w fun x w' => x = .panicked [{ v := grefusalV e p, recovered := false }] ∧ w = w' := by
  go_enter Try.func51, Try.ntmps51
  go_wp2
  exact ⟨rfl, rfl, rfl⟩

end Go.Proofs.Ytinphcnknionmab
