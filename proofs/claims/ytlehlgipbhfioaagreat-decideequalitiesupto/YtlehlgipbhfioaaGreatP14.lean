/- Package decide: a problem in memory: say, variable. Package decide: learnStep. Package decide: hasRoom. Package decide: rename. Package decide: all. Package decide: isWhole. Package decide: a set of pointers to Forms: it answers something. -/
import Derived.Test.YtlehlgipbhfioaaGreatP13
import Derived.LaidEql
namespace Go.Proofs.YtlehlgipbhfioaaGreat
open Go.RowKit Go.Maps

def pmC (bk tv fv : Value) (vb n : Nat) (lv : Value) (kb : Nat) : Nat → Value := fun j => if j = 0 then bk else if j = 1 then tv else if j = 2 then fv else if j = 3 then .map (some vb) else if j = 4 then .int .i64 (n : Int) else if j = 5 then lv else .map (some kb)
/-- A problem. -/
structure Pm (S : Nat → Prop) (W : World) (pb vb kb : Nat) (bk tv fv lv : Value) (P : Pb) : Prop where
  cells : W.rowIs pb 118 7 (pmC bk tv fv vb P.count lv kb)
  vars : VrIs W vb P.vars
  known : KnIs W kb P.known
  vk : vb ≠ kb
  lt : ∀ k, S k → k < W.heap.size
  rows : ∃ rs : List Value, W.ownsRow 0 39 1 lv rs.length rs ∧ rs.length = P.lemmas.length ∧ ∀ (i : Nat) (c : List Int), P.lemmas[i]? = some c → ∃ g cap, rs[i]? = some (.slice (some ⟨g, 0, none⟩) c.length cap) ∧ S g ∧ Rw W g c
def PD (pb vb kb : Nat) (lv : Value) (k : Nat) : Prop := k = pb ∨ k = vb ∨ k = kb ∨ lv.ownBlock = some k
/-- What a step of a problem leaves. -/
structure PmX (S : Nat → Prop) (w : World) (S' : Nat → Prop) (W : World) (pb vb kb : Nat) (bk tv fv lv lv' : Value) (P' : Pb) : Prop where
  is : Pm S' W pb vb kb bk tv fv lv' P'
  new : ∀ k, S' k → S k ∨ w.heap.size ≤ k
  kept : Kept (PD pb vb kb lv) w W
  at_ : lv'.ownBlock = lv.ownBlock ∨ ∀ k, lv'.ownBlock = some k → w.heap.size ≤ k
theorem PmX.start {S : Nat → Prop} {w : World} {pb vb kb : Nat} {bk tv fv lv : Value} {P : Pb} (h : Pm S w pb vb kb bk tv fv lv P) : PmX S w S w pb vb kb bk tv fv lv lv P := ⟨h, fun _ => Or.inl, Kept.refl _ _, Or.inl rfl⟩
theorem PmX.trans {S S1 S2 : Nat → Prop} {w w1 w2 : World} {pb vb kb : Nat} {bk tv fv lv lv1 lv2 : Value} {P1 P2 : Pb} (h1 : PmX S w S1 w1 pb vb kb bk tv fv lv lv1 P1) (h2 : PmX S1 w1 S2 w2 pb vb kb bk tv fv lv1 lv2 P2) : PmX S w S2 w2 pb vb kb bk tv fv lv lv2 P2 := by
  have z1 := h1.kept.size
  refine ⟨h2.is, fun k hk => (h2.new k hk).elim (fun e => h1.new k e) (fun e => Or.inr (Nat.le_trans z1 e)), ⟨h2.kept.os.trans h1.kept.os, h2.kept.tape.trans h1.kept.tape, h2.kept.output.trans h1.kept.output, Nat.le_trans z1 h2.kept.size, fun k hk hn => ?_⟩, ?_⟩
  · refine (h2.kept.block k (Nat.lt_of_lt_of_le hk z1) ?_).trans (h1.kept.block k hk hn)
    rintro (e | e | e | e)
    · exact hn (Or.inl e)
    · exact hn (Or.inr (Or.inl e))
    · exact hn (Or.inr (Or.inr (Or.inl e)))
    · rcases h1.at_ with e1 | e1
      · exact hn (Or.inr (Or.inr (Or.inr (by rw [← e1]; exact e))))
      · have := e1 k e; omega
  · rcases h2.at_ with e | e
    · rw [e]; exact h1.at_
    · exact Or.inr (fun k hk => Nat.le_trans z1 (e k hk))
theorem Rw.nemap {W : World} {g : Nat} {c : List Int} (h : Rw W g c) {k : Nat} {es : _} {ck : _} (hk : W.heap[k]? = some (Obj.map es ck)) : g ≠ k := by
  obtain ⟨N, F, _, h2, _⟩ := h
  exact fun e => drow_map h2 hk e.symm
theorem Rw.nerow {W : World} {g : Nat} {c : List Int} (h : Rw W g c) {b n : Nat} {t : TypeId} {f : Nat → Value} (hr : W.rowIs b t n f) (ht : t ≠ 3) : g ≠ b := by
  obtain ⟨N, F, _, h2, _⟩ := h
  exact rowIs_neD h2 hr ht.symm
theorem Rw.neown {W : World} {g : Nat} {c : List Int} (h : Rw W g c) {base size n : Nat} {t : TypeId} {v : Value} {xs : List Value} (hr : W.ownsRow base t size v n xs) (ht : t ≠ 3) : v.ownBlock ≠ some g := by
  obtain ⟨N, F, _, h2, _⟩ := h
  exact rowIs_type h2 ht.symm hr
theorem Pm.keep {S : Nat → Prop} {W W' : World} {pb vb kb : Nat} {bk tv fv lv : Value} {P : Pb} (h : Pm S W pb vb kb bk tv fv lv P) (hs : W.heap.size ≤ W'.heap.size) (h1 : W'.heap[pb]? = W.heap[pb]?) (h2 : W'.heap[vb]? = W.heap[vb]?) (h3 : W'.heap[kb]? = W.heap[kb]?) (h4 : ∀ b, lv.ownBlock = some b → W'.heap[b]? = W.heap[b]?) (h5 : ∀ g c, S g → Rw W g c → W'.heap[g]? = W.heap[g]?) : Pm S W' pb vb kb bk tv fv lv P := by
  obtain ⟨rs, r1, r2, r3⟩ := h.rows
  refine ⟨h.cells.of_block h1, h.vars.keep h2, h.known.keep h3, h.vk, fun k hk => Nat.lt_of_lt_of_le (h.lt k hk) hs, rs, ownsRow_blk r1 h4, r2, fun i c hi => ?_⟩
  obtain ⟨g, cap, q1, q0, q2⟩ := r3 i c hi
  exact ⟨g, cap, q1, q0, q2.block (h5 g c q0 q2)⟩
theorem Pm.below {S : Nat → Prop} {W W' : World} {pb vb kb : Nat} {bk tv fv lv : Value} {P : Pb} (h : Pm S W pb vb kb bk tv fv lv P) (hB : Below W.heap.size W W') : Pm S W' pb vb kb bk tv fv lv P := by
  obtain ⟨es, ck, e1⟩ := h.vars.lt
  obtain ⟨es', ck', e2⟩ := h.known.lt
  obtain ⟨rs, r1, _⟩ := h.rows
  exact h.keep hB.size (hB.block _ h.cells.lt) (hB.block _ (Array.getElem?_eq_some_iff.1 e1).1) (hB.block _ (Array.getElem?_eq_some_iff.1 e2).1) (fun b hb => hB.block b (ownsRow_lt r1 hb).2) (fun g c _ hr => hB.block g hr.lt)
theorem PmX.below {S S' : Nat → Prop} {w W W' : World} {pb vb kb : Nat} {bk tv fv lv lv' : Value} {P : Pb} (h : PmX S w S' W pb vb kb bk tv fv lv lv' P) (hB : Below W.heap.size W W') : PmX S w S' W' pb vb kb bk tv fv lv lv' P := ⟨h.is.below hB, h.new, h.kept.under hB, h.at_⟩

theorem PmX.wider {S S' S2 : Nat → Prop} {w W : World} {pb vb kb : Nat} {bk tv fv lv lv' : Value} {P : Pb} (h : PmX S w S' W pb vb kb bk tv fv lv lv' P) (h1 : ∀ k, S' k → S2 k) (h2 : ∀ k, S2 k → S k ∨ w.heap.size ≤ k) (h3 : ∀ k, S2 k → k < W.heap.size) : PmX S w S2 W pb vb kb bk tv fv lv lv' P := by
  obtain ⟨rs, r1, r2, r3⟩ := h.is.rows
  refine ⟨⟨h.is.cells, h.is.vars, h.is.known, h.is.vk, h3, rs, r1, r2, fun i c hi => ?_⟩, h2, h.kept, h.at_⟩
  obtain ⟨g, cap, q1, q0, q2⟩ := r3 i c hi
  exact ⟨g, cap, q1, h1 g q0, q2⟩
/-- A lemma more. -/
theorem Pm.said {S : Nat → Prop} {w W1 w8 : World} {pb vb kb : Nat} {bk tv fv lv v8 : Value} {P : Pb} (h : Pm S w pb vb kb bk tv fv lv P) {rs : List Value} {g cap : Nat} {c : List Int} (hrs : rs.length = P.lemmas.length ∧ ∀ (i : Nat) (c : List Int), P.lemmas[i]? = some c → ∃ g cap, rs[i]? = some (.slice (some ⟨g, 0, none⟩) c.length cap) ∧ S g ∧ Rw w g c)
    (hg : Rw w g c) (hrow : w.ownsRow 0 39 1 lv rs.length rs) (hB : Below w.heap.size w W1) (hown : w8.ownsRow 0 39 1 v8 (rs.length + 1) (rs ++ [.slice (some ⟨g, 0, none⟩) c.length cap])) (hgrow : W1.grownBy w8 lv.ownBlock) (hat : v8.ownBlock = lv.ownBlock ∨ ∀ k, v8.ownBlock = some k → W1.heap.size ≤ k) :
    w8.cell? ⟨pb, 5, none⟩ = some lv ∧ w8.frozen? ⟨pb, 5, none⟩ = false ∧ Pm (fun k => S k ∨ k = g) (w8.setCell ⟨pb, 5, none⟩ v8) pb vb kb bk tv fv v8 { P with lemmas := P.lemmas ++ [c] } ∧ Kept (PD pb vb kb lv) w (w8.setCell ⟨pb, 5, none⟩ v8) ∧ (v8.ownBlock = lv.ownBlock ∨ ∀ k, v8.ownBlock = some k → w.heap.size ≤ k) := by
  have h1 := h.below hB
  have row1 := ownsRow_below hrow hB
  obtain ⟨es, ck, e1⟩ := h1.vars.lt
  obtain ⟨es', ck', e2⟩ := h1.known.lt
  have nb8 : ∀ k, k < W1.heap.size → lv.ownBlock ≠ some k → w8.heap[k]? = W1.heap[k]? := fun k hk hne => hgrow.block k hk (fun e => hne e.symm)
  have hp : lv.ownBlock ≠ some pb := rowIs_type h1.cells (by decide) row1
  have c8 : w8.rowIs pb 118 7 (pmC bk tv fv vb P.count lv kb) := h1.cells.of_block (nb8 _ h1.cells.lt hp)
  have v8e := nb8 vb (Array.getElem?_eq_some_iff.1 e1).1 (down_map row1 e1)
  have k8e := nb8 kb (Array.getElem?_eq_some_iff.1 e2).1 (down_map row1 e2)
  have K9 : Kept (fun k => k = pb) w8 (w8.setCell ⟨pb, 5, none⟩ v8) := Kept.setCell (S := fun k => k = pb) (Kept.refl _ w8) (p := ⟨pb, 5, none⟩) rfl v8
  have nb9 : ∀ k, k < w8.heap.size → k ≠ pb → (w8.setCell ⟨pb, 5, none⟩ v8).heap[k]? = w8.heap[k]? := fun k hk hne => K9.block k hk hne
  have e1' : w8.heap[vb]? = some (Obj.map es ck) := v8e.trans e1
  have e2' : w8.heap[kb]? = some (Obj.map es' ck') := k8e.trans e2
  have hp8 : v8.ownBlock ≠ some pb := rowIs_type c8 (by decide) hown
  have rwk : ∀ {g : Nat} {c : List Int}, Rw w g c → Rw (w8.setCell ⟨pb, 5, none⟩ v8) g c := fun {g c} hr => by
    have hr1 : Rw W1 g c := hr.block (hB.block g hr.lt)
    have hr8 : Rw w8 g c := hr1.block (nb8 g hr1.lt (hr1.neown row1 (by decide)))
    exact hr8.block (nb9 g hr8.lt (hr8.nerow c8 (by decide)))
  refine ⟨c8.cell (i := 5) (by omega), c8.frozen 5, ⟨?_, ?_, ?_, h.vk, fun k hk => ?_, rs ++ [.slice (some ⟨g, 0, none⟩) c.length cap], ?_, by simp [hrs.1], fun i c' hi => ?_⟩, ?_, ?_⟩
  · refine (c8.set 5 v8).congr (fun j hj => ?_)
    unfold pmC
    by_cases e : j = 5
    · subst e; simp
    · rw [if_neg e]
      have : j = 0 ∨ j = 1 ∨ j = 2 ∨ j = 3 ∨ j = 4 ∨ j = 6 := by omega
      rcases this with rfl | rfl | rfl | rfl | rfl | rfl <;> rfl
  · exact (h1.vars.keep v8e).keep (nb9 vb (Array.getElem?_eq_some_iff.1 e1').1 (drow_map c8 e1'))
  · exact (h1.known.keep k8e).keep (nb9 kb (Array.getElem?_eq_some_iff.1 e2').1 (drow_map c8 e2'))
  · have hz : w.heap.size ≤ (w8.setCell ⟨pb, 5, none⟩ v8).heap.size := Nat.le_trans hB.size (Nat.le_trans hgrow.size K9.size)
    rcases hk with hk | hk
    · exact Nat.lt_of_lt_of_le (h.lt k hk) hz
    · rw [hk]
      exact Nat.lt_of_lt_of_le hg.lt hz
  · have := ownsRow_blk hown (W' := w8.setCell ⟨pb, 5, none⟩ v8) (fun b hb => nb9 b (ownsRow_lt hown hb).2 (fun e => hp8 (e ▸ hb)))
    simpa using this
  · by_cases hil : i < P.lemmas.length
    · simp only at hi
      rw [List.getElem?_append_left hil] at hi
      obtain ⟨g', cap', q1, q0, q2⟩ := hrs.2 i c' hi
      exact ⟨g', cap', by rw [List.getElem?_append_left (by omega)]; exact q1, Or.inl q0, rwk q2⟩
    · simp only at hi
      rw [List.getElem?_append_right (by omega)] at hi
      have hi0 : i - P.lemmas.length = 0 := by
        have := (List.getElem?_eq_some_iff.1 hi).1
        simp at this
        omega
      rw [hi0] at hi
      simp at hi
      subst hi
      exact ⟨g, cap, by rw [List.getElem?_append_right (by omega), hrs.1, hi0]; rfl, Or.inr rfl, rwk hg⟩
  · refine ⟨K9.os.trans (hgrow.os.trans hB.os), K9.tape.trans (hgrow.tape.trans hB.tape), K9.output.trans (hgrow.output.trans hB.output), Nat.le_trans hB.size (Nat.le_trans hgrow.size K9.size), fun k hk hn => ?_⟩
    have hk1 : k < W1.heap.size := Nat.lt_of_lt_of_le hk hB.size
    rw [nb9 k (Nat.lt_of_lt_of_le hk1 hgrow.size) (fun e => hn (Or.inl e)), nb8 k hk1 (fun e => hn (Or.inr (Or.inr (Or.inr e)))), hB.block k hk]
  · exact hat.imp id (fun e k hk => Nat.le_trans hB.size (e k hk))

set_option maxRecDepth 100000 in
set_option maxHeartbeats 1000000 in
theorem dsay_in (S : Nat → Prop) (w : World) (pb vb kb : Nat) (bk tv fv lv : Value) (P : Pb) (h : Pm S w pb vb kb bk tv fv lv P) (hl : P.lemmas.length ≤ 1000000000) (g cap : Nat) (c : List Int) (hg : Rw w g c) :
    Calls Tryz.prog 122 #[.pointer (some ⟨pb, 0, none⟩), .slice (some ⟨g, 0, none⟩) c.length cap] w fun e w' => e = .returned (.tuple #[]) ∧ ∃ lv', Pm (fun k => S k ∨ k = g) w' pb vb kb bk tv fv lv' { P with lemmas := P.lemmas ++ [c] } ∧ Kept (PD pb vb kb lv) w w' ∧ (lv'.ownBlock = lv.ownBlock ∨ ∀ k, lv'.ownBlock = some k → w.heap.size ≤ k) := by
  obtain ⟨rs, r1, r2, r3⟩ := h.rows
  obtain ⟨la, lc, hlv⟩ := ownsRow_form r1
  subst hlv
  have c5 : w.cell? ⟨pb, 5, none⟩ = some (.slice la rs.length lc) := h.cells.cell (i := 5) (by omega)
  obtain ⟨i0, hi0, hz0, hz1, hz2⟩ := info_parts infoIntsq
  have HM : Hid (_ ∧ _ ∧ _ ∧ _) := And.intro h (And.intro (And.intro r2 r3) (And.intro hg r1))
  have zp := h.cells.lt
  have c5a : ∀ O, (w.alloc O).cell? ⟨pb, 5, none⟩ = some (.slice la rs.length lc) := fun O => Lib.cell?_alloc_some _ c5
  have hrl : rs.length ≤ 1000000000 := by omega
  clear h r2 r3 hg hl
  go_enter Tryz.func122, Tryz.ntmps122
  go_wp2_with (first | (at_builtin; refine Aside.out ?_))
  delta Aside
  refine wpList_append_own_at _ rfl _ _ 116 rfl 0 39 i0 _ 1 24 Tryz.underlying116 hi0 hz0 hz1 hz2 rfl (by decide) _ _ _ rfl (r1.alloc _) ⟨_, 0, none⟩ 1 1 [.slice (some ⟨g, 0, none⟩) c.length cap] rfl rfl (cell_oneV w _ _) (by simp [Value.oneCell']) (by unfold maxLen; omega) (by omega) (by simp) ?_
  intro v8 w8 hown8 hgrow8 _ hat8
  obtain ⟨d1, d2, d3⟩ := HM.out.1.said HM.out.2.1 HM.out.2.2.1 r1 ((Below.refl _ _).alloc (Nat.le_refl _) _) hown8 hgrow8 (hat8.imp id (fun e k hk => by rw [e] at hk; cases hk; exact Nat.le_refl _))
  obtain ⟨g8, cap8, hv8⟩ := ownsRow_succ hown8
  have HF : Hid _ := d3
  subst hv8
  clear hown8 hgrow8 hat8 HM r1 d3
  go_wp2_with fail
  refine ⟨rfl, .tuple #[], by simp [results, Tryz.results122], rfl, ?_⟩
  exact ⟨_, HF.out⟩

theorem Pm.count {S : Nat → Prop} {W : World} {pb vb kb : Nat} {bk tv fv lv : Value} {P : Pb} (h : Pm S W pb vb kb bk tv fv lv P) (n : Nat) : PmX S W S (W.setCell ⟨pb, 4, none⟩ (.int .i64 (n : Int))) pb vb kb bk tv fv lv lv { P with count := n } := by
  have K9 : Kept (fun k => k = pb) W (W.setCell ⟨pb, 4, none⟩ (.int .i64 (n : Int))) := Kept.setCell (S := fun k => k = pb) (Kept.refl _ W) (p := ⟨pb, 4, none⟩) rfl _
  obtain ⟨es, ck, e1⟩ := h.vars.lt
  obtain ⟨es', ck', e2⟩ := h.known.lt
  obtain ⟨rs, r1, r2, r3⟩ := h.rows
  refine ⟨⟨?_, h.vars.keep (K9.block _ (Array.getElem?_eq_some_iff.1 e1).1 (drow_map h.cells e1)), h.known.keep (K9.block _ (Array.getElem?_eq_some_iff.1 e2).1 (drow_map h.cells e2)), h.vk, fun k hk => Nat.lt_of_lt_of_le (h.lt k hk) K9.size, rs, ownsRow_blk r1 (fun b hb => K9.block b (ownsRow_lt r1 hb).2 (fun e => rowIs_type h.cells (by decide) r1 (e ▸ hb))), r2, fun i c hi => ?_⟩, fun _ => Or.inl, K9.mono (fun _ _ e => Or.inl e), Or.inl rfl⟩
  · refine (h.cells.set 4 _).congr (fun j hj => ?_)
    unfold pmC
    by_cases e : j = 4
    · subst e; simp
    · rw [if_neg e]
      have : j = 0 ∨ j = 1 ∨ j = 2 ∨ j = 3 ∨ j = 5 ∨ j = 6 := by omega
      rcases this with rfl | rfl | rfl | rfl | rfl | rfl <;> rfl
  · obtain ⟨g, cap, q1, q0, q2⟩ := r3 i c hi
    exact ⟨g, cap, q1, q0, q2.block (K9.block g q2.lt (q2.nerow h.cells (by decide)))⟩
theorem Pm.put {S : Nat → Prop} {W W2 : World} {pb vb kb : Nat} {bk tv fv lv : Value} {P : Pb} (h : Pm S W pb vb kb bk tv fv lv P) {vs : List (Pr × Nat)} (hv : VrIs W2 vb vs) (K9 : Kept1 vb W W2) : PmX S W S W2 pb vb kb bk tv fv lv lv { P with vars := vs } := by
  obtain ⟨es, ck, e1⟩ := h.vars.lt
  obtain ⟨es', ck', e2⟩ := h.known.lt
  obtain ⟨rs, r1, r2, r3⟩ := h.rows
  refine ⟨⟨h.cells.of_block (K9.block _ h.cells.lt (fun e => drow_map h.cells e1 e.symm)), hv, h.known.keep (K9.block _ (Array.getElem?_eq_some_iff.1 e2).1 (fun e => h.vk e.symm)), h.vk, fun k hk => Nat.lt_of_lt_of_le (h.lt k hk) K9.size, rs, ownsRow_blk r1 (fun b hb => K9.block b (ownsRow_lt r1 hb).2 (fun e => down_map r1 e1 (e ▸ hb))), r2, fun i c hi => ?_⟩, fun _ => Or.inl, K9.mono (fun _ _ e => Or.inr (Or.inl e)), Or.inl rfl⟩
  obtain ⟨g, cap, q1, q0, q2⟩ := r3 i c hi
  exact ⟨g, cap, q1, q0, q2.block (K9.block g q2.lt (q2.nemap e1))⟩
theorem Pm.learn {S : Nat → Prop} {W W2 : World} {pb vb kb : Nat} {bk tv fv lv : Value} {P : Pb} (h : Pm S W pb vb kb bk tv fv lv P) {ks : List (Pr × List Pr)} (hv : KnIs W2 kb ks) (K9 : Kept1 kb W W2) : PmX S W S W2 pb vb kb bk tv fv lv lv { P with known := ks } := by
  obtain ⟨es, ck, e1⟩ := h.vars.lt
  obtain ⟨es', ck', e2⟩ := h.known.lt
  obtain ⟨rs, r1, r2, r3⟩ := h.rows
  refine ⟨⟨h.cells.of_block (K9.block _ h.cells.lt (fun e => drow_map h.cells e2 e.symm)), h.vars.keep (K9.block _ (Array.getElem?_eq_some_iff.1 e1).1 h.vk), hv, h.vk, fun k hk => Nat.lt_of_lt_of_le (h.lt k hk) K9.size, rs, ownsRow_blk r1 (fun b hb => K9.block b (ownsRow_lt r1 hb).2 (fun e => down_map r1 e2 (e ▸ hb))), r2, fun i c hi => ?_⟩, fun _ => Or.inl, K9.mono (fun _ _ e => Or.inr (Or.inr (Or.inl e))), Or.inl rfl⟩
  obtain ⟨g, cap, q1, q0, q2⟩ := r3 i c hi
  exact ⟨g, cap, q1, q0, q2.block (K9.block g q2.lt (q2.nemap e2))⟩

set_option maxRecDepth 100000 in
set_option maxHeartbeats 1000000 in
theorem dvar_in (S : Nat → Prop) (w : World) (pb vb kb : Nat) (bk tv fv lv : Value) (P : Pb) (h : Pm S w pb vb kb bk tv fv lv P) (hl : P.lemmas.length ≤ 100000000) (hc : P.count < 1000000) (hv : P.vars.length < 1000000) (a : Pr) (ha : PrOk a) :
    Calls Tryz.prog 80 #[.pointer (some ⟨pb, 0, none⟩), .agg #[.int .i64 (a.1 : Int), .int .i64 (a.2 : Int)]] w fun e w' => e = .returned (.int .i64 ((P.vari a).1 : Int)) ∧ ∃ S' lv', PmX S w S' w' pb vb kb bk tv fv lv lv' (P.vari a).2 := by
  have h0 := h.below ((Below.refl _ _).alloc (Nat.le_refl _) (.cells #[.int .i64 (a.1 : Int), .int .i64 (a.2 : Int)] 34))
  have x0 : PmX S w S (w.alloc (.cells #[.int .i64 (a.1 : Int), .int .i64 (a.2 : Int)] 34)) pb vb kb bk tv fv lv lv P := (PmX.start h).below ((Below.refl _ _).alloc (Nat.le_refl _) _)
  have A1 := made_row w #[.int .i64 (a.1 : Int), .int .i64 (a.2 : Int)] 34
  have y1 := A1.cell (i := 0) (by simp)
  have y2 := A1.cell (i := 1) (by simp)
  have c3 : (w.alloc (.cells #[.int .i64 (a.1 : Int), .int .i64 (a.2 : Int)] 34)).cell? ⟨pb, 3, none⟩ = some (.map (some vb)) := h0.cells.cell (i := 3) (by omega)
  have LK : ∀ m, _ := fun m => (show VrIs ((w.alloc (.cells #[.int .i64 (a.1 : Int), .int .i64 (a.2 : Int)] 34)).drewN m) vb P.vars from h0.vars.keep rfl).look ha
  have hnum : P.num a = numV P.vars a := rfl
  cases hn : numV P.vars a with
  | some x =>
    rw [hn] at LK
    have e1 : P.vari a = (x, P) := by unfold Pb.vari; rw [hnum, hn]
    rw [e1]
    have HX : Hid _ := x0
    simp only [Option.getD_some, Option.isSome_some] at LK
    clear x0 h0 h A1 hn hnum e1
    go_enter Tryz.func80, Tryz.ntmps80
    go_wp2_with fail
    go_quiet (fail)
    go_wp2_with fail
    go_ret
    exact ⟨rfl, S, lv, HX.out.below ⟨rfl, rfl, rfl, Nat.le_refl _, fun _ _ => rfl⟩⟩
  | none =>
    rw [hn] at LK
    have e1 : P.vari a = (P.count + 1, { P with count := P.count + 1, vars := P.vars ++ [(a, P.count + 1)], lemmas := if a.1 = a.2 then P.lemmas ++ [[((P.count + 1 : Nat) : Int)]] else P.lemmas }) := by unfold Pb.vari; rw [hnum, hn]
    have HE : Hid _ := e1
    have HN : Hid _ := hn
    have HX : Hid _ := x0
    simp only [Option.getD_none, Option.isSome_none] at LK
    have c4 : (w.alloc (.cells #[.int .i64 (a.1 : Int), .int .i64 (a.2 : Int)] 34)).cell? ⟨pb, 4, none⟩ = some (.int .i64 (P.count : Int)) := h0.cells.cell (i := 4) (by omega)
    have f4 := h0.cells.frozen 4
    have hwc : IntKind.i64.wrap ((P.count : Int) + 1) = (P.count : Int) + 1 := wrap_nat1 (by omega)
    clear x0 h0 h A1 hn hnum e1
    go_enter Tryz.func80, Tryz.ntmps80
    go_wp2_with fail
    go_quiet (fail)
    go_wp2_with fail
    have X1 : PmX S w S ((w.alloc (.cells #[.int .i64 (a.1 : Int), .int .i64 (a.2 : Int)] 34)).drewN nq) pb vb kb bk tv fv lv lv P := HX.out.below ⟨rfl, rfl, rfl, Nat.le_refl _, fun _ _ => rfl⟩
    have X2 := X1.trans (X1.is.count (P.count + 1))
    have ecast : ((P.count + 1 : Nat) : Int) = (P.count : Int) + 1 := by simp
    rw [ecast] at X2
    have hbne : ¬ pb = w.heap.size := by
      obtain ⟨c, hc, _⟩ := HX.out.is.cells
      have := (HX.out.kept.size)
      intro e
      rw [e, heap_alloc_new] at hc
      cases hc
    have b1 : (((w.alloc (.cells #[.int .i64 (a.1 : Int), .int .i64 (a.2 : Int)] 34)).drewN nq).setCell ⟨pb, 4, none⟩ (.int .i64 ((P.count : Int) + 1))).rowIs w.heap.size 34 2 (fun j => if j = 0 then .int .i64 (a.1 : Int) else .int .i64 (a.2 : Int)) := by
      have R : ((w.alloc (.cells #[.int .i64 (a.1 : Int), .int .i64 (a.2 : Int)] 34)).drewN nq).rowIs w.heap.size 34 2 (fun j => if j = 0 then .int .i64 (a.1 : Int) else .int .i64 (a.2 : Int)) := by
        refine World.rowIs.congr (made_row w #[.int .i64 (a.1 : Int), .int .i64 (a.2 : Int)] 34) (fun j hj => ?_)
        have : j = 0 ∨ j = 1 := by omega
        rcases this with rfl | rfl <;> rfl
      refine R.of_block ?_
      simp only [World.setCell]
      rw [Array.getElem?_modify, if_neg hbne]
    generalize (((w.alloc (.cells #[.int .i64 (a.1 : Int), .int .i64 (a.2 : Int)] 34)).drewN nq).setCell ⟨pb, 4, none⟩ (.int .i64 ((P.count : Int) + 1))) = w2 at *
    have c3' : w2.cell? ⟨pb, 3, none⟩ = some (.map (some vb)) := X2.is.cells.cell (i := 3) (by omega)
    have c4' : w2.cell? ⟨pb, 4, none⟩ = some (.int .i64 ((P.count : Int) + 1)) := by
      have := X2.is.cells.cell (i := 4) (by omega)
      rw [this]
      simp [pmC]
    have z1 : w2.cell? ⟨w.heap.size, 0, none⟩ = some (.int .i64 (a.1 : Int)) := b1.cell (i := 0) (by omega)
    have z2 : w2.cell? ⟨w.heap.size, 1, none⟩ = some (.int .i64 (a.2 : Int)) := b1.cell (i := 1) (by omega)
    obtain ⟨W3, hr3, hv3, hk3⟩ := (show VrIs w2.drew vb P.vars from X2.is.vars.keep rfl).store ha HN.out (n := P.count + 1) (by omega) hv
    rw [ecast] at hr3
    have X3 := X2.trans ((X2.is.below (below_drw w2)).put hv3 hk3 |> fun q => (⟨q.is, q.new, ⟨q.kept.os, q.kept.tape, q.kept.output, q.kept.size, q.kept.block⟩, q.at_⟩ : PmX S w2 S W3 pb vb kb bk tv fv lv lv _))
    obtain ⟨es, ck, hes⟩ := X2.is.vars.lt
    have b3 : W3.rowIs w.heap.size 34 2 (fun j => if j = 0 then .int .i64 (a.1 : Int) else .int .i64 (a.2 : Int)) := b1.of_block (hk3.block _ b1.lt (fun e => drow_map b1 hes e.symm))
    have z3 : W3.cell? ⟨w.heap.size, 0, none⟩ = some (.int .i64 (a.1 : Int)) := b3.cell (i := 0) (by omega)
    have z4 : W3.cell? ⟨w.heap.size, 1, none⟩ = some (.int .i64 (a.2 : Int)) := b3.cell (i := 1) (by omega)
    have c4w : W3.cell? ⟨pb, 4, none⟩ = some (.int .i64 ((P.count : Int) + 1)) := by
      have := X3.is.cells.cell (i := 4) (by omega)
      rw [this]
      simp [pmC]
    have HX3 : Hid _ := X3
    clear X1 X2 X3 HX LK y1 y2 c3 c4 f4 hv3 hk3 hes b1 b3
    go_cut [25] from 26 to 33 (fun _ wx => wx = W3)
    case first =>
      go_region_law (fail)
      all_goals
        try simp only [Act.put, List.getElem_toArray, List.getElem_cons_succ, List.getElem_cons_zero, List.setIfInBounds_toArray, List.set_cons_succ, List.set_cons_zero]
        go_wp2_with fail
        go_meet
        case rel => rfl
    case rest =>
      subst hcut
      apply_assumption
      by_cases hab : a.1 = a.2
      · have dab : ((a.1 : Int) == (a.2 : Int)) = true := by rw [hab]; simp
        have HL : Hid ((P.vari a) = (P.count + 1, { P with count := P.count + 1, vars := P.vars ++ [(a, P.count + 1)], lemmas := P.lemmas ++ [[(P.count : Int) + 1]] })) := by show _ = _; rw [HE.out, if_pos hab, ecast]
        have HY : Hid (PmX S w (fun k => S k ∨ k = wc.heap.size) (wc.alloc (.cells #[.int .i64 ((P.count : Int) + 1)] 3)) pb vb kb bk tv fv lv lv _) := (HX3.out.below ((Below.refl _ _).alloc (Nat.le_refl _) (.cells #[.int .i64 ((P.count : Int) + 1)] 3))).wider (fun _ => Or.inl) (fun k hk => hk.imp id (fun e => by rw [e]; exact HX3.out.kept.size)) (fun k hk => by
          simp only [World.alloc, Array.size_push]
          rcases hk with hk | hk
          · exact Nat.lt_succ_of_lt (HX3.out.is.lt k hk)
          · rw [hk]; exact Nat.lt_succ_self _)
        have SAY := dsay_in _ (wc.alloc (.cells #[.int .i64 ((P.count : Int) + 1)] 3)) pb vb kb bk tv fv lv _ HY.out.is (by simp only; omega) wc.heap.size 1 [(P.count : Int) + 1] (rw_new wc [(P.count : Int) + 1] _ rfl)
        clear hab HE HX3 HN
        go_wp2_with (first | (go_at_call 122; refine SAY.mono ?_; rintro e w9 ⟨rfl, lv9, X9, X9k, X9a⟩; refine Aside.out ?_))
        delta Aside
        have Y9 := HY.out.trans (⟨X9, fun k hk => Or.inl (hk.elim id Or.inr), X9k, X9a⟩ : PmX (fun k => S k ∨ k = wc.heap.size) _ _ w9 pb vb kb bk tv fv lv lv9 _)
        have c9 : w9.cell? ⟨pb, 4, none⟩ = some (.int .i64 ((P.count : Int) + 1)) := by
          have := Y9.is.cells.cell (i := 4) (by omega)
          rw [this]
          simp [pmC]
        have HZ : Hid _ := Y9
        clear X9 X9k X9a Y9 SAY HY c4w c4' z1 z2 z3 z4
        apply_assumption
        go_wp2_with fail
        go_ret
        rw [HL.out]
        exact ⟨by simp, _, lv9, HZ.out⟩
      · have dab : ((a.1 : Int) == (a.2 : Int)) = false := by simp; omega
        have HL : Hid ((P.vari a) = (P.count + 1, { P with count := P.count + 1, vars := P.vars ++ [(a, P.count + 1)], lemmas := P.lemmas })) := by show _ = _; rw [HE.out, if_neg hab]
        clear hab HE HN
        go_wp2_with fail
        go_ret
        rw [HL.out]
        exact ⟨by simp, _, lv, HX3.out⟩
end Go.Proofs.YtlehlgipbhfioaaGreat

namespace Go.Proofs.YtlehlgipbhfioaaGreat
open Go.RowKit Go.Maps

theorem skV_at {k : Pr × List Pr} {x0 x1 x2 x3 x4 x5 x6 x7 x8 x9 : Nat} (e : flat4 k.1 k.2 = [x0, x1, x2, x3, x4, x5, x6, x7, x8, x9]) : skV k = .agg #[.int .i64 (x0 : Int), .int .i64 (x1 : Int), .int .i64 (x2 : Int), .int .i64 (x3 : Int), .int .i64 (x4 : Int), .int .i64 (x5 : Int), .int .i64 (x6 : Int), .int .i64 (x7 : Int), .int .i64 (x8 : Int), .int .i64 (x9 : Int)] := by
  unfold skV
  rw [stpV_flat, e]
  rfl
/-- A step in a box. -/
def BxS (W : World) (sb : Nat) (x0 x1 x2 x3 x4 x5 x6 x7 x8 x9 : Nat) : Prop := W.rowIs sb 206 10 (fun j => ((#[.int .i64 (x0 : Int), .int .i64 (x1 : Int), .int .i64 (x2 : Int), .int .i64 (x3 : Int), .int .i64 (x4 : Int), .int .i64 (x5 : Int), .int .i64 (x6 : Int), .int .i64 (x7 : Int), .int .i64 (x8 : Int), .int .i64 (x9 : Int)] : Array Value)[j]?).getD undef)
theorem BxS.get {W : World} {sb x0 x1 x2 x3 x4 x5 x6 x7 x8 x9 : Nat} (h : BxS W sb x0 x1 x2 x3 x4 x5 x6 x7 x8 x9) : W.cell? ⟨sb, 0, none⟩ = some (.int .i64 (x0 : Int)) ∧ W.cell? ⟨sb, 1, none⟩ = some (.int .i64 (x1 : Int)) ∧ W.cell? ⟨sb, 2, none⟩ = some (.int .i64 (x2 : Int)) ∧ W.cell? ⟨sb, 3, none⟩ = some (.int .i64 (x3 : Int)) ∧ W.cell? ⟨sb, 4, none⟩ = some (.int .i64 (x4 : Int)) ∧ W.cell? ⟨sb, 5, none⟩ = some (.int .i64 (x5 : Int)) ∧ W.cell? ⟨sb, 6, none⟩ = some (.int .i64 (x6 : Int)) ∧ W.cell? ⟨sb, 7, none⟩ = some (.int .i64 (x7 : Int)) ∧ W.cell? ⟨sb, 8, none⟩ = some (.int .i64 (x8 : Int)) ∧ W.cell? ⟨sb, 9, none⟩ = some (.int .i64 (x9 : Int)) :=
  ⟨World.rowIs.cell h (i := 0) (by omega), World.rowIs.cell h (i := 1) (by omega), World.rowIs.cell h (i := 2) (by omega), World.rowIs.cell h (i := 3) (by omega), World.rowIs.cell h (i := 4) (by omega), World.rowIs.cell h (i := 5) (by omega), World.rowIs.cell h (i := 6) (by omega), World.rowIs.cell h (i := 7) (by omega), World.rowIs.cell h (i := 8) (by omega), World.rowIs.cell h (i := 9) (by omega)⟩
theorem BxS.made (w : World) (x0 x1 x2 x3 x4 x5 x6 x7 x8 x9 : Nat) : BxS (w.alloc (.cells #[.int .i64 (x0 : Int), .int .i64 (x1 : Int), .int .i64 (x2 : Int), .int .i64 (x3 : Int), .int .i64 (x4 : Int), .int .i64 (x5 : Int), .int .i64 (x6 : Int), .int .i64 (x7 : Int), .int .i64 (x8 : Int), .int .i64 (x9 : Int)] 206)) w.heap.size x0 x1 x2 x3 x4 x5 x6 x7 x8 x9 := made_row w _ 206
theorem BxS.pmx {W W' : World} {sb x0 x1 x2 x3 x4 x5 x6 x7 x8 x9 : Nat} (h : BxS W sb x0 x1 x2 x3 x4 x5 x6 x7 x8 x9) {pb vb kb : Nat} {bk tv fv lv lv' : Value} {P P' : Pb} {S S' : Nat → Prop} (hm : Pm S W pb vb kb bk tv fv lv P) (hx : PmX S W S' W' pb vb kb bk tv fv lv lv' P') : BxS W' sb x0 x1 x2 x3 x4 x5 x6 x7 x8 x9 := by
  obtain ⟨es, ck, e1⟩ := hm.vars.lt
  obtain ⟨es', ck', e2⟩ := hm.known.lt
  obtain ⟨rs, r1, _⟩ := hm.rows
  refine World.rowIs.of_block h (hx.kept.block _ (World.rowIs.lt h) ?_)
  rintro (e | e | e | e)
  · exact rowIs_neD h hm.cells (by decide) e
  · exact drow_map h e1 e.symm
  · exact drow_map h e2 e.symm
  · exact rowIs_type h (by decide) r1 e

theorem rowI_pmx {W W' : World} {base n : Nat} {v : Value} {xs : List Value} (h : W.ownsRow base 3 1 v n xs) {pb vb kb : Nat} {bk tv fv lv lv' : Value} {P P' : Pb} {S S' : Nat → Prop} (hm : Pm S W pb vb kb bk tv fv lv P) (hx : PmX S W S' W' pb vb kb bk tv fv lv lv' P') : W'.ownsRow base 3 1 v n xs := by
  obtain ⟨es, ck, e1⟩ := hm.vars.lt
  obtain ⟨es', ck', e2⟩ := hm.known.lt
  obtain ⟨rs, r1, _⟩ := hm.rows
  refine ownsRow_blk h (fun b hb => hx.kept.block b (ownsRow_lt h hb).2 ?_)
  rintro (e | e | e | e)
  · exact rowIs_type hm.cells (by decide) h (e ▸ hb)
  · exact down_map h e1 (e ▸ hb)
  · exact down_map h e2 (e ▸ hb)
  · exact ownsRow_ne2 h r1 (by decide) hb e
theorem Rw.of_own {W : World} {base : Nat} {v : Value} {c : List Int} (h : W.ownsRow base 3 1 v c.length (c.map (fun x => Value.int .i64 x))) (hne : c ≠ []) : ∃ g cap, v = .slice (some ⟨g, 0, none⟩) c.length cap ∧ Rw W g c := by
  rcases h.2 with ⟨e, h0⟩ | ⟨g, cap, cur, e, e1, e2, e3, e4, e5, e6⟩
  · exact absurd (List.length_eq_zero_iff.1 h0) hne
  · refine ⟨g, cap, e, cur.size, fun j => (cur[j]?).getD undef, by rw [e5]; omega, ⟨cur, e2, rfl, fun i hi => ?_⟩, fun j x hj => ?_⟩
    · simp [hi]
    · have hjl := (List.getElem?_eq_some_iff.1 hj).1
      have hh : (cur.toList.take (c.length * 1))[j]? = some (.int .i64 x) := by rw [e6, List.getElem?_map, hj]; rfl
      rw [List.getElem?_take_of_lt (by omega)] at hh
      rw [Array.getElem?_toList] at hh
      show (cur[j]?).getD undef = _
      rw [hh]
      rfl

theorem vari_len (P : Pb) (a : Pr) : (P.vari a).2.count ≤ P.count + 1 ∧ (P.vari a).2.vars.length ≤ P.vars.length + 1 ∧ (P.vari a).2.lemmas.length ≤ P.lemmas.length + 1 ∧ (P.vari a).1 ≤ P.count + 1 ∨ (∃ x, numV P.vars a = some x) := by
  unfold Pb.vari
  cases h : P.num a with
  | some x => exact Or.inr ⟨x, h⟩
  | none =>
    refine Or.inl ⟨Nat.le_refl _, by simp, ?_, Nat.le_refl _⟩
    simp only
    split <;> simp
theorem vari_lens (P : Pb) (a : Pr) : (P.vari a).2.count ≤ P.count + 1 ∧ (P.vari a).2.vars.length ≤ P.vars.length + 1 ∧ (P.vari a).2.lemmas.length ≤ P.lemmas.length + 1 := by
  unfold Pb.vari
  cases h : P.num a with
  | some x => exact ⟨Nat.le_succ _, Nat.le_succ _, Nat.le_succ _⟩
  | none =>
    refine ⟨Nat.le_refl _, by simp, ?_⟩
    simp only
    split <;> simp
/-- Numbers of variables are small. -/
def VrS (P : Pb) : Prop := ∀ e ∈ P.vars, e.2 ≤ P.count
theorem VrS.vari {P : Pb} (h : VrS P) (a : Pr) : VrS (P.vari a).2 ∧ (P.vari a).1 ≤ (P.vari a).2.count := by
  unfold Pb.vari
  cases hn : P.num a with
  | some x =>
    refine ⟨h, ?_⟩
    unfold Pb.num at hn
    cases hf : P.vars.find? (fun e => decide (e.1 = a)) with
    | none => rw [hf] at hn; simp at hn
    | some e =>
      rw [hf] at hn
      simp at hn
      subst hn
      exact h e (List.mem_of_find?_eq_some hf)
  | none =>
    refine ⟨fun e he => ?_, Nat.le_refl _⟩
    simp only at he ⊢
    rcases List.mem_append.1 he with he | he
    · exact Nat.le_succ_of_le (h e he)
    · simp at he
      subst he
      exact Nat.le_refl _
theorem partP (W : World) (xs : Array Value) (o : Nat) : (part 34 xs o).run Tryz.prog W = .ok (.agg (xs.extract o (o + 2))) W := by
  have ag := Tryz.isAgg34 W
  simp [part, ag]
theorem ix4_0 (W : World) (a b c d e f g h : Value) : (Instr.index 204 (.agg #[a, b, c, d, e, f, g, h]) (.int .i64 0)).run Tryz.prog W = .ok (.agg #[a, b]) W := by
  simp [Instr.index, run_underlying Tryz.underlying204, asIntOf, partP]
theorem ix4_1 (W : World) (a b c d e f g h : Value) : (Instr.index 204 (.agg #[a, b, c, d, e, f, g, h]) (.int .i64 1)).run Tryz.prog W = .ok (.agg #[c, d]) W := by
  simp [Instr.index, run_underlying Tryz.underlying204, asIntOf, partP]
theorem ix4_2 (W : World) (a b c d e f g h : Value) : (Instr.index 204 (.agg #[a, b, c, d, e, f, g, h]) (.int .i64 2)).run Tryz.prog W = .ok (.agg #[e, f]) W := by
  simp [Instr.index, run_underlying Tryz.underlying204, asIntOf, partP]
theorem ix4_3 (W : World) (a b c d e f g h : Value) : (Instr.index 204 (.agg #[a, b, c, d, e, f, g, h]) (.int .i64 3)).run Tryz.prog W = .ok (.agg #[g, h]) W := by
  simp [Instr.index, run_underlying Tryz.underlying204, asIntOf, partP]
/-- A row of numbers of one's own grows: the problem stays. -/
theorem PmX.grown {S S' : Nat → Prop} {w W W' : World} {pb vb kb : Nat} {bk tv fv lv lv' : Value} {P : Pb} (h : PmX S w S' W pb vb kb bk tv fv lv lv' P) {base n : Nat} {v : Value} {xs : List Value} (hr : W.ownsRow base 3 1 v n xs) (hsep : ∀ b, v.ownBlock = some b → ¬ S' b ∧ w.heap.size ≤ b) (hg : W.grownBy W' v.ownBlock) : PmX S w S' W' pb vb kb bk tv fv lv lv' P := by
  obtain ⟨es, ck, e1⟩ := h.is.vars.lt
  obtain ⟨es', ck', e2⟩ := h.is.known.lt
  obtain ⟨rs, r1, r2, r3⟩ := h.is.rows
  have nb : ∀ k, k < W.heap.size → v.ownBlock ≠ some k → W'.heap[k]? = W.heap[k]? := fun k hk hne => hg.block k hk (fun e => hne e.symm)
  refine ⟨h.is.keep hg.size (nb _ h.is.cells.lt (rowIs_type h.is.cells (by decide) hr)) (nb _ (Array.getElem?_eq_some_iff.1 e1).1 (down_map hr e1)) (nb _ (Array.getElem?_eq_some_iff.1 e2).1 (down_map hr e2)) (fun b hb => nb b (ownsRow_lt r1 hb).2 (fun e => ownsRow_ne2 r1 hr (by decide) hb e)) (fun g c hs hrw => nb g hrw.lt (fun e => (hsep g e).1 hs)), h.new, ⟨hg.os.trans h.kept.os, hg.tape.trans h.kept.tape, hg.output.trans h.kept.output, Nat.le_trans h.kept.size hg.size, fun k hk hn => (nb k (Nat.lt_of_lt_of_le hk h.kept.size) (fun e => by have := (hsep k e).2; omega)).trans (h.kept.block k hk hn)⟩, h.at_⟩
/-- learnStep in its loop. -/
def LsI (S : Nat → Prop) (w W : World) (pb vb kb : Nat) (bk tv fv lv : Value) (QS : List Pr) (V : Nat × Pb) (i : Nat) (t6 : Value) : Prop :=
  ∃ (S' : Nat → Prop) (Li : List Int) (Pi : Pb) (lvi : Value), PmX S w S' W pb vb kb bk tv fv lv lvi Pi ∧ W.ownsRow 0 3 1 t6 (1 + Li.length) (((V.1 : Int) :: Li).map (fun x => Value.int .i64 x)) ∧ (∀ b, t6.ownBlock = some b → ¬ S' b ∧ w.heap.size ≤ b) ∧ (Pi.lemmas.length ≤ 10000001 + i ∧ Pi.count ≤ 100001 + i ∧ Pi.vars.length ≤ 100001 + i ∧ Li.length ≤ i ∧ VrS Pi) ∧ (∃ Rest, Pb.prem (QS.drop i) Pi = (Rest, (Pb.prem QS V.2).2) ∧ Li ++ Rest = (Pb.prem QS V.2).1)

set_option maxRecDepth 100000 in
set_option maxHeartbeats 1000000 in
theorem learnStep_in (S : Nat → Prop) (w : World) (pb vb kb : Nat) (bk tv fv lv : Value) (P : Pb) (h : Pm S w pb vb kb bk tv fv lv P) (k : Pr × List Pr) (hk : SkOk k) (hl : P.lemmas.length ≤ 10000000) (hc : P.count < 100000) (hv : P.vars.length < 100000) (hkn : P.known.length < 1000000000) (hvs : VrS P) :
    Calls Tryz.prog 96 #[.pointer (some ⟨pb, 0, none⟩), skV k] w fun e w' => e = .returned (.tuple #[]) ∧ ∃ S' lv', PmX S w S' w' pb vb kb bk tv fv lv lv' (P.step k) := by
  obtain ⟨x0, x1, x2, x3, x4, x5, x6, x7, x8, x9, hfl⟩ := flat4_ex k.1 k.2
  have hsk := skV_at hfl
  have hB0 : Below w.heap.size w (w.alloc (.cells #[.int .i64 (x0 : Int), .int .i64 (x1 : Int), .int .i64 (x2 : Int), .int .i64 (x3 : Int), .int .i64 (x4 : Int), .int .i64 (x5 : Int), .int .i64 (x6 : Int), .int .i64 (x7 : Int), .int .i64 (x8 : Int), .int .i64 (x9 : Int)] 206)) := (Below.refl _ _).alloc (Nat.le_refl _) _
  have X0 := (PmX.start h).below hB0
  have B0 := BxS.made w x0 x1 x2 x3 x4 x5 x6 x7 x8 x9
  rw [hsk]
  go_enter Tryz.func96, Tryz.ntmps96
  go_wp2_with fail
  generalize (w.alloc (.cells #[.int .i64 (x0 : Int), .int .i64 (x1 : Int), .int .i64 (x2 : Int), .int .i64 (x3 : Int), .int .i64 (x4 : Int), .int .i64 (x5 : Int), .int .i64 (x6 : Int), .int .i64 (x7 : Int), .int .i64 (x8 : Int), .int .i64 (x9 : Int)] 206)) = w0 at *
  obtain ⟨sb, hsb⟩ : ∃ s, w.heap.size = s := ⟨_, rfl⟩
  rw [hsb] at B0
  simp only [hsb]
  have c6 : w0.cell? ⟨pb, 6, none⟩ = some (.map (some kb)) := X0.is.cells.cell (i := 6) (by omega)
  have c6a : ∀ O, (w0.alloc O).cell? ⟨pb, 6, none⟩ = some (.map (some kb)) := fun O => Lib.cell?_alloc_some _ c6
  obtain ⟨y0, y1, y2, y3, y4, y5, y6, y7, y8, y9⟩ := B0.get
  have LK1 := (show KnIs w0.drew kb P.known from X0.is.known.keep rfl).look hk
  have LK2 : ∀ O, _ := fun O => (show KnIs (w0.alloc O).drew kb P.known from (X0.is.below (below_ad w0 O)).known).look hk
  rw [hsk] at LK1
  simp only [hsk] at LK2
  have z0 : ∀ O, (w0.alloc O).cell? ⟨sb, 0, none⟩ = some (.int .i64 (x0 : Int)) := fun O => Lib.cell?_alloc_some _ y0
  have z1 : ∀ O, (w0.alloc O).cell? ⟨sb, 1, none⟩ = some (.int .i64 (x1 : Int)) := fun O => Lib.cell?_alloc_some _ y1
  have z2 : ∀ O, (w0.alloc O).cell? ⟨sb, 2, none⟩ = some (.int .i64 (x2 : Int)) := fun O => Lib.cell?_alloc_some _ y2
  have z3 : ∀ O, (w0.alloc O).cell? ⟨sb, 3, none⟩ = some (.int .i64 (x3 : Int)) := fun O => Lib.cell?_alloc_some _ y3
  have z4 : ∀ O, (w0.alloc O).cell? ⟨sb, 4, none⟩ = some (.int .i64 (x4 : Int)) := fun O => Lib.cell?_alloc_some _ y4
  have z5 : ∀ O, (w0.alloc O).cell? ⟨sb, 5, none⟩ = some (.int .i64 (x5 : Int)) := fun O => Lib.cell?_alloc_some _ y5
  have z6 : ∀ O, (w0.alloc O).cell? ⟨sb, 6, none⟩ = some (.int .i64 (x6 : Int)) := fun O => Lib.cell?_alloc_some _ y6
  have z7 : ∀ O, (w0.alloc O).cell? ⟨sb, 7, none⟩ = some (.int .i64 (x7 : Int)) := fun O => Lib.cell?_alloc_some _ y7
  have z8 : ∀ O, (w0.alloc O).cell? ⟨sb, 8, none⟩ = some (.int .i64 (x8 : Int)) := fun O => Lib.cell?_alloc_some _ y8
  have z9 : ∀ O, (w0.alloc O).cell? ⟨sb, 9, none⟩ = some (.int .i64 (x9 : Int)) := fun O => Lib.cell?_alloc_some _ y9
  have HX : Hid (_ ∧ _) := And.intro X0 B0
  clear X0 B0 h hsb hB0
  go_cut [4, 5] from 9 to 17 (fun _ t5 wx => t5 = .bool (decide ((k.1, pad4c k.2) ∈ P.known)) ∧ Hid (Below w0.heap.size w0 wx))
  case first =>
    go_region_law (fail)
    all_goals
      try simp only [Act.put, List.getElem_toArray, List.getElem_cons_succ, List.getElem_cons_zero, List.setIfInBounds_toArray, List.set_cons_succ, List.set_cons_zero]
      go_wp2_with fail
      go_meet
      case rel => exact ⟨rfl, below_ad w0 _⟩
  case rest =>
    obtain ⟨rfl, HB1⟩ := hcut
    by_cases hin : (k.1, pad4c k.2) ∈ P.known
    · have dk : decide ((k.1, pad4c k.2) ∈ P.known) = true := decide_eq_true hin
      have HF : Hid (P.step k = P) := by
        show _ = _
        unfold Pb.step
        rw [if_pos (show (k.1, pad4 k.2) ∈ P.known from hin)]
      have HX1 : Hid _ := HX.out.1.below HB1.out
      rw [dk]
      clear hin dk LK1 LK2
      apply_assumption
      go_wp2_with fail
      refine ⟨rfl, .tuple #[], by simp [results, Tryz.results96], rfl, S, lv, ?_⟩
      rw [HF.out]
      exact HX1.out
    · have dk : decide ((k.1, pad4c k.2) ∈ P.known) = false := decide_eq_false hin
      rw [dk]
      have X1 := HX.out.1.below HB1.out
      have B1 : BxS wc sb x0 x1 x2 x3 x4 x5 x6 x7 x8 x9 := World.rowIs.of_block HX.out.2 (HB1.out.block _ (World.rowIs.lt HX.out.2))
      clear c6 c6a y0 y1 y2 y3 y4 y5 y6 y7 y8 y9 z0 z1 z2 z3 z4 z5 z6 z7 z8 z9 LK1 LK2
      have c6 : wc.cell? ⟨pb, 6, none⟩ = some (.map (some kb)) := X1.is.cells.cell (i := 6) (by omega)
      obtain ⟨y0, y1, y2, y3, y4, y5, y6, y7, y8, y9⟩ := B1.get
      obtain ⟨W3, hr3, hv3, hk3⟩ := (show KnIs wc.drew kb P.known from X1.is.known.keep rfl).store hk (by omega)
      rw [hsk] at hr3
      have XL := (X1.is.below (below_drw wc)).learn hv3 hk3
      have XL2 : PmX S wc S W3 pb vb kb bk tv fv lv lv { P with known := P.known ++ [(k.1, pad4c k.2)] } := ⟨XL.is, XL.new, ⟨XL.kept.os, XL.kept.tape, XL.kept.output, XL.kept.size, XL.kept.block⟩, XL.at_⟩
      have X3 := X1.trans XL2
      have B3 := B1.pmx X1.is XL2
      have HNI : Hid _ := hin
      have HX3 : Hid (_ ∧ _) := And.intro X3 B3
      clear hin dk X1 B1 XL XL2 hv3 hk3 HX HB1 X3 B3
      obtain ⟨w1, rfl⟩ : ∃ w1, w1 = wc := ⟨_, rfl⟩
      apply_assumption
      go_wp2_with fail
      go_cut [19] from 20 to 24 (fun _ wx => wx = W3)
      case first =>
        go_region_law (fail)
        all_goals
          try simp only [Act.put, List.getElem_toArray, List.getElem_cons_succ, List.getElem_cons_zero, List.setIfInBounds_toArray, List.set_cons_succ, List.set_cons_zero]
          go_wp2_with fail
          go_meet
          case rel => rfl
      case rest =>
        subst hcut
        clear y0 y1 y2 y3 y4 y5 y6 y7 y8 y9 c6 hr3
        obtain ⟨y0, y1, y2, y3, y4, y5, y6, y7, y8, y9⟩ := HX3.out.2.get
        have hcp : k.1 = (x0, x1) := by
          have := hfl
          simp only [flat4, List.cons_append, List.cons.injEq] at this
          exact Prod.ext this.1 this.2.1
        have VA := dvar_in S wc pb vb kb bk tv fv lv _ HX3.out.1.is (by simp only; omega) (by simp only; omega) (by simp only; omega) k.1 hk.1
        obtain ⟨V, hV⟩ : ∃ V, V = Pb.vari { P with known := P.known ++ [(k.1, pad4c k.2)] } k.1 := ⟨_, rfl⟩
        rw [← hV] at VA
        rw [hcp] at VA
        have HV : Hid _ := hV
        clear hV hcp
        apply_assumption
        go_wp2_with (first | (go_at_call 80; refine VA.mono ?_; rintro e w5 ⟨rfl, S5, lv5, X5⟩; refine Aside.out ?_))
        delta Aside
        have X5' := HX3.out.1.trans X5
        have B5 := HX3.out.2.pmx HX3.out.1.is X5
        have B6 : BxS (w5.alloc (.cells #[.int .i64 (V.1 : Int)] 3)) sb x0 x1 x2 x3 x4 x5 x6 x7 x8 x9 := World.rowIs.of_block B5 (heap_alloc_old _ _ (World.rowIs.lt B5))
        obtain ⟨q0, q1, q2, q3, q4, q5, q6, q7, q8, q9⟩ := B6.get
        have X6 := X5'.below ((Below.refl w5.heap.size w5).alloc (Nat.le_refl _) (.cells #[.int .i64 (V.1 : Int)] 3))
        have R6 : (w5.alloc (.cells #[.int .i64 (V.1 : Int)] 3)).ownsRow 0 3 1 (.slice (some ⟨w5.heap.size, 0, none⟩) 1 1) 1 ([(V.1 : Int)].map (fun x => Value.int .i64 x)) := ⟨rfl, Or.inr ⟨w5.heap.size, 1, #[.int .i64 (V.1 : Int)], rfl, Nat.zero_le _, heap_alloc_new _ _, Nat.le_refl _, by unfold maxLen; omega, rfl, rfl⟩⟩
        obtain ⟨QS, hQS⟩ : ∃ QS : List Pr, QS = [(x2, x3), (x4, x5), (x6, x7), (x8, x9)] := ⟨_, rfl⟩
        have hpd : pad4c k.2 = QS := by
          obtain ⟨a, b, d, e, h1⟩ := pad4c_ex k.2
          have := hfl
          simp only [flat4, h1, List.flatMap_cons, List.flatMap_nil, List.cons_append, List.nil_append, List.append_nil, List.cons.injEq, and_true] at this
          obtain ⟨_, _, e2, e3, e4, e5, e6, e7, e8, e9⟩ := this
          rw [h1, hQS, ← e2, ← e3, ← e4, ← e5, ← e6, ← e7, ← e8, ← e9]
        have hQok : ∀ q ∈ QS, PrOk q := fun q hq => by
          rw [← hpd] at hq
          unfold pad4c at hq
          rcases List.mem_append.1 (List.mem_of_mem_take hq) with hq | hq
          · exact hk.2 q hq
          · rw [List.eq_of_mem_replicate hq]
            exact ⟨by simp, by simp⟩
        have HI0 : Hid (LsI S w (w5.alloc (.cells #[.int .i64 (V.1 : Int)] 3)) pb vb kb bk tv fv lv QS V 0 (.slice (some ⟨w5.heap.size, 0, none⟩) 1 1)) := by
          have hl3 := vari_lens { P with known := P.known ++ [(k.1, pad4c k.2)] } k.1
          have hs3 := VrS.vari (P := { P with known := P.known ++ [(k.1, pad4c k.2)] }) hvs k.1
          rw [← HV.out] at hl3 hs3
          simp only at hl3
          refine ⟨S5, [], V.2, lv5, X6, R6, fun b hb => ?_, ⟨by omega, by omega, by omega, Nat.le_refl _, hs3.1⟩, _, rfl, by simp⟩
          have hbe : w5.heap.size = b := by simpa [Value.ownBlock] using hb
          rw [← hbe]
          exact ⟨fun hS => absurd (X5'.is.lt _ hS) (Nat.lt_irrefl _), X5'.kept.size⟩
        have HQ : Hid (_ ∧ _ ∧ _ ∧ _) := And.intro hQS (And.intro hpd (And.intro hQok B5))
        clear B6 X5 X5' B5 X6 R6 hpd hQok VA y0 y1 y2 y3 y4 y5 y6 y7 y8 y9
        apply_assumption
        go_wp2_with fail
        generalize w5.alloc (.cells #[.int .i64 (V.1 : Int)] 3) = w6 at *
        obtain ⟨rb, hrb⟩ : ∃ r, w5.heap.size = r := ⟨_, rfl⟩
        rw [hrb] at HI0
        simp only [hrb]
        obtain ⟨i0, hi0, hz0, hz1, hz2⟩ := info_parts infoIntq
        clear hrb q0 q1 q2 q3 q4 q5 q6 q7 q8 q9 HX3
        go_loopw [6, 32] (fun t6 t32 W => ∃ i : Nat, i ≤ 4 ∧ t32 = .int .i64 (i : Int) ∧ Hid (LsI S w W pb vb kb bk tv fv lv QS V i t6)) (fun _ t32 _ => 4 - (intOf t32).toNat)
        case atStart => exact ⟨0, by omega, rfl, HI0⟩
        case round =>
          obtain ⟨i, hi4, rfl, HJ⟩ := hrel
          clear HI0
          have ix0 := ix4_0 wr
          have ix1 := ix4_1 wr
          have ix2 := ix4_2 wr
          have ix3 := ix4_3 wr
          by_cases hlt : i < 4
          · obtain ⟨q, hq⟩ : ∃ q, QS[i]? = some q := ⟨QS[i]'(by rw [HQ.out.1]; exact hlt), List.getElem?_eq_getElem _⟩
            obtain ⟨qa, qb⟩ := q
            have hil : i < QS.length := (List.getElem?_eq_some_iff.1 hq).1
            have hge : QS[i] = (qa, qb) := (List.getElem?_eq_some_iff.1 hq).2
            have hdr : QS.drop i = (qa, qb) :: QS.drop (i + 1) := by rw [List.drop_eq_getElem_cons hil, hge]
            have hqok : PrOk (qa, qb) := HQ.out.2.2.1 _ (List.mem_of_getElem? hq)
            obtain ⟨Si, Li, Pi, lvi, hXi, hRi, hSi, ⟨b1, b2, b3, b4, b5⟩, Rest, hR1, hR2⟩ := HJ.out
            rw [hdr, Pb.prem] at hR1
            have hBx : Below wr.heap.size wr (wr.alloc (.cells #[.int .i64 (qa : Int), .int .i64 (qb : Int)] 34)) := (Below.refl _ _).alloc (Nat.le_refl _) _
            have hx := hq
            rw [HQ.out.1] at hx
            obtain ⟨la, lc, hla⟩ := ownsRow_form hRi
            subst hla
            by_cases hqe : qa = qb
            · rw [if_pos hqe] at hR1
              have HF : Hid (LsI S w (wr.alloc (.cells #[.int .i64 (qa : Int), .int .i64 (qb : Int)] 34)) pb vb kb bk tv fv lv QS V (i + 1) (.slice la (1 + Li.length) lc)) := ⟨Si, Li, Pi, lvi, hXi.below hBx, ownsRow_below hRi hBx, hSi, ⟨by omega, by omega, by omega, by omega, b5⟩, Rest, hR1, hR2⟩
              have dq : ((qa : Int) != (qb : Int)) = false := by rw [hqe]; simp
              generalize 1 + Li.length = ll at *
              clear hXi hRi hSi b1 b2 b3 b4 b5 hR1 hR2 HJ hBx hdr hge hq hqe hqok hil
              rcases (by omega : i = 0 ∨ i = 1 ∨ i = 2 ∨ i = 3) with rfl | rfl | rfl | rfl
              all_goals
                simp only [List.getElem?_cons_zero, List.getElem?_cons_succ, Option.some.injEq, Prod.mk.injEq] at hx
                obtain ⟨rfl, rfl⟩ := hx
                go_wp2_with fail
                exact ⟨⟨_, by decide, rfl, HF⟩, by decide⟩
            · rw [if_neg hqe] at hR1
              have VA := dvar_in Si (wr.alloc (.cells #[.int .i64 (qa : Int), .int .i64 (qb : Int)] 34)) pb vb kb bk tv fv lvi Pi (hXi.is.below hBx) (by omega) (by omega) (by omega) (qa, qb) hqok
              have dq : ((qa : Int) != (qb : Int)) = true := by simp; omega
              obtain ⟨Vq, hVq⟩ : ∃ Vq, Vq = Pi.vari (qa, qb) := ⟨_, rfl⟩
              rw [← hVq] at VA hR1
              have hl3 := vari_lens Pi (qa, qb)
              have hs3 := b5.vari (qa, qb)
              rw [← hVq] at hl3 hs3
              have hneg : IntKind.i64.wrap (-(Vq.1 : Int)) = -(Vq.1 : Int) := by rw [IntKind.wrap_i64]; omega
              injection hR1 with e1 e2
              have HF : Hid (∀ (w7 w8 : World) (S7 : Nat → Prop) (lv7 v8 : Value), PmX Si (wr.alloc (.cells #[.int .i64 (qa : Int), .int .i64 (qb : Int)] 34)) S7 w7 pb vb kb bk tv fv lvi lv7 Vq.2 → w8.ownsRow 0 3 1 v8 (1 + Li.length + 1) (((V.1 : Int) :: Li).map (fun x => Value.int .i64 x) ++ [.int .i64 (-(Vq.1 : Int))]) → (w7.alloc (.cells #[.int .i64 (-(Vq.1 : Int))] 3)).grownBy w8 (Value.slice la (1 + Li.length) lc).ownBlock → (v8.ownBlock = (Value.slice la (1 + Li.length) lc).ownBlock ∨ v8.ownBlock = some (w7.alloc (.cells #[.int .i64 (-(Vq.1 : Int))] 3)).heap.size) → LsI S w w8 pb vb kb bk tv fv lv QS V (i + 1) v8) := fun w7 w8 S7 lv7 v8 hX7 ho hg hat => by
                have hX := (hXi.below hBx).trans hX7
                have hr7 := rowI_pmx (ownsRow_below hRi hBx) (hXi.is.below hBx) hX7
                have hr7a := ownsRow_below hr7 ((Below.refl w7.heap.size w7).alloc (Nat.le_refl _) (.cells #[.int .i64 (-(Vq.1 : Int))] 3))
                have hX8 := hX.below ((Below.refl w7.heap.size w7).alloc (Nat.le_refl _) (.cells #[.int .i64 (-(Vq.1 : Int))] 3))
                have hs7 : ∀ b, (Value.slice la (1 + Li.length) lc).ownBlock = some b → ¬ S7 b ∧ w.heap.size ≤ b := fun b hb => ⟨fun hS => (hX7.new b hS).elim (fun e => (hSi b hb).1 e) (fun e => by have := (ownsRow_lt hRi hb).2; simp at e; omega), (hSi b hb).2⟩
                refine ⟨S7, Li ++ [-(Vq.1 : Int)], Vq.2, lv7, hX8.grown hr7a hs7 hg, ?_, fun b hb => ?_, ⟨by omega, by omega, by omega, by simp; omega, hs3.1⟩, _, Prod.ext rfl e2, ?_⟩
                · have e : 1 + (Li ++ [-(Vq.1 : Int)]).length = 1 + Li.length + 1 := by simp; omega
                  rw [e]
                  simpa using ho
                · rcases hat with e | e
                  · exact hs7 b (e ▸ hb)
                  · rw [e] at hb
                    have hbe : (w7.alloc (.cells #[.int .i64 (-(Vq.1 : Int))] 3)).heap.size = b := by simpa using hb
                    rw [← hbe]
                    exact ⟨fun hS => absurd (hX8.is.lt _ hS) (Nat.lt_irrefl _), hX8.kept.size⟩
                · rw [← hR2, ← e1]
                  simp
              have HR : Hid (∀ (w7 : World) (S7 : Nat → Prop) (lv7 : Value), PmX Si (wr.alloc (.cells #[.int .i64 (qa : Int), .int .i64 (qb : Int)] 34)) S7 w7 pb vb kb bk tv fv lvi lv7 Vq.2 → w7.ownsRow 0 3 1 (.slice la (1 + Li.length) lc) (1 + Li.length) (((V.1 : Int) :: Li).map (fun x => Value.int .i64 x))) := fun w7 S7 lv7 hX7 => rowI_pmx (ownsRow_below hRi hBx) (hXi.is.below hBx) hX7
              generalize hll : ((V.1 : Int) :: Li).map (fun x => Value.int .i64 x) = rw1 at *
              generalize hl1 : 1 + Li.length = ll at *
              have hlb : ll ≤ 10 := by omega
              clear hXi hRi hSi b1 b2 b3 b4 b5 hR2 HJ hBx hdr hge hq hqe hqok hil hll hl1 e1 e2 hl3 hs3 hVq
              rcases (by omega : i = 0 ∨ i = 1 ∨ i = 2 ∨ i = 3) with rfl | rfl | rfl | rfl
              all_goals
                simp only [List.getElem?_cons_zero, List.getElem?_cons_succ, Option.some.injEq, Prod.mk.injEq] at hx
                obtain ⟨rfl, rfl⟩ := hx
                go_wp2_with (first | (go_at_call 80; refine VA.mono ?_; rintro e w7 ⟨rfl, S7, lv7, X7⟩; refine Aside.out ?_))
                delta Aside
                have r7 := HR.out w7 S7 lv7 X7
                have HX7 : Hid _ := X7
                clear X7 VA HR
                apply_assumption
                go_wp2_with (first | (at_builtin; refine Aside.out ?_))
                delta Aside
                refine wpList_append_own_at _ rfl _ _ 39 rfl 0 3 i0 _ 1 8 Tryz.underlying39 hi0 hz0 hz1 hz2 rfl (by decide) _ _ _ rfl (r7.alloc _) ⟨_, 0, none⟩ 1 1 [.int .i64 (-(Vq.1 : Int))] rfl rfl (cell_one1 w7 _ _) (by simp [Value.oneCell']) (by unfold maxLen; omega) (by omega) (by simp) ?_
                intro v8 w8 hown8 hgrow8 _ hat8
                have HL : Hid _ := HF.out w7 w8 S7 lv7 v8 HX7.out hown8 hgrow8 hat8
                clear hown8 hgrow8 hat8 HF HX7 r7
                go_wp2_with fail
                exact ⟨⟨_, by decide, rfl, HL⟩, by decide⟩
          · obtain rfl : i = 4 := by omega
            obtain ⟨Si, Li, Pi, lvi, hXi, hRi, hSi, ⟨b1, b2, b3, b4, b5⟩, Rest, hR1, hR2⟩ := HJ.out
            have hdr : QS.drop 4 = [] := by rw [HQ.out.1]; rfl
            rw [hdr, Pb.prem] at hR1
            injection hR1 with e1 e2
            subst e1
            rw [List.append_nil] at hR2
            have hlen : ((V.1 : Int) :: Li).length = 1 + Li.length := by simp; omega
            rw [← hlen] at hRi
            obtain ⟨gb, gc, hgv, hRw⟩ := Rw.of_own hRi (by simp)
            subst hgv
            have SAY := dsay_in Si wr pb vb kb bk tv fv lvi Pi hXi.is (by omega) gb gc ((V.1 : Int) :: Li) hRw
            have HF : Hid ({ Pi with lemmas := Pi.lemmas ++ [(V.1 : Int) :: Li] } = P.step k) := by
              show _ = _
              unfold Pb.step
              rw [if_neg (show ¬ (k.1, pad4 k.2) ∈ P.known from HNI.out)]
              have hpd : pad4 k.2 = QS := HQ.out.2.1
              rw [hpd, show ({ P with known := P.known ++ [(k.1, QS)] } : Pb).vari k.1 = V from by rw [HV.out, ← HQ.out.2.1], ← hR2, ← e2]
            have hgb := hSi gb rfl
            have hXw := hXi.wider (S2 := fun k => Si k ∨ k = gb) (fun _ => Or.inl) (fun k hk => hk.elim (fun e => hXi.new k e) (fun e => by rw [e]; exact Or.inr hgb.2)) (fun k hk => hk.elim (fun e => hXi.is.lt k e) (fun e => by rw [e]; exact hRw.lt))
            have HXi : Hid _ := hXw
            clear hXi hXw hgb hSi hRi hRw hR2 e2 HJ b1 b2 b3 b4 b5 hdr hlen
            generalize ((V.1 : Int) :: Li).length = gl at *
            go_wp2_with (first | (go_at_call 122; refine SAY.mono ?_; rintro e w9 ⟨rfl, lv9, X9, X9k, X9a⟩))
            refine ⟨rfl, .tuple #[], by simp [results, Tryz.results96], rfl, fun k => Si k ∨ k = gb, lv9, ?_⟩
            rw [← HF.out]
            exact HXi.out.trans ⟨X9, fun _ => Or.inl, X9k, X9a⟩
end Go.Proofs.YtlehlgipbhfioaaGreat

namespace Go.Proofs.YtlehlgipbhfioaaGreat
open Go.RowKit Go.Maps

/-- The conclusions that have no variable. -/
def missN (P : Pb) : List Stq → List Pr → List Pr
  | [], ms => ms
  | s :: r, ms => missN P r (if (numV P.vars s.1).isSome then ms else addP ms [s.1])
theorem missN_len (P : Pb) : ∀ (r : List Stq) (ms : List Pr), (missN P r ms).length ≤ ms.length + r.length
  | [], ms => by simp [missN]
  | s :: r, ms => by
    rw [missN]
    refine Nat.le_trans (missN_len P r _) ?_
    split
    · simp
    · have := addP_len ms [s.1]
      simp at this ⊢
      omega
theorem stRow_len (S : List Stq) : (stRow S).length = S.length * 10 := by
  induction S with
  | nil => rfl
  | cons a S ih =>
    have e : stRow (a :: S) = stpV a.1 a.2 ++ stRow S := by simp [stRow]
    rw [e, List.length_append, ih, stpV_len]
    simp
    omega
theorem stRow_get : ∀ {S : List Stq} {j : Nat} {s : Stq} {x0 x1 x2 x3 x4 x5 x6 x7 x8 x9 : Nat}, S[j]? = some s → flat4 s.1 s.2 = [x0, x1, x2, x3, x4, x5, x6, x7, x8, x9] → ∀ (i : Nat) (u : Nat), [x0, x1, x2, x3, x4, x5, x6, x7, x8, x9][i]? = some u → (stRow S)[j * 10 + i]? = some (.int .i64 (u : Int))
  | [], j, s, _, _, _, _, _, _, _, _, _, _, h, _, _, _, _ => by simp at h
  | q :: l, 0, s, _, _, _, _, _, _, _, _, _, _, h, hf, i, u, hu => by
    simp at h
    subst h
    have e : stRow (q :: l) = stpV q.1 q.2 ++ stRow l := by simp [stRow]
    have hil : i < 10 := (List.getElem?_eq_some_iff.1 hu).1
    rw [e, Nat.zero_mul, Nat.zero_add, List.getElem?_append_left (by rw [stpV_len]; exact hil), stpV_flat, hf, List.getElem?_map, hu]
    rfl
  | q :: l, j + 1, s, _, _, _, _, _, _, _, _, _, _, h, hf, i, u, hu => by
    have := stRow_get (S := l) (j := j) (s := s) (by simpa using h) hf i u hu
    have e : stRow (q :: l) = stpV q.1 q.2 ++ stRow l := by simp [stRow]
    have e1 : (j + 1) * 10 + i = (stpV q.1 q.2).length + (j * 10 + i) := by rw [stpV_len]; omega
    rw [e, e1, List.getElem?_append_right (by omega), Nat.add_sub_cancel_left]
    exact this

set_option maxRecDepth 100000 in
set_option maxHeartbeats 1000000 in
theorem hasRoom_in (S : Nat → Prop) (w : World) (pb vb kb : Nat) (bk tv fv lv : Value) (P : Pb) (h : Pm S w pb vb kb bk tv fv lv P) (hc : P.count ≤ 100000) (base : Nat) (v : Value) (SF : List Stq) (hr : w.ownsRow base 206 10 v SF.length (stRow SF)) (hSl : SF.length ≤ 1000000000) (hok : ∀ s ∈ SF, PrOk s.1) :
    Calls Tryz.prog 94 #[.pointer (some ⟨pb, 0, none⟩), v] w fun e w' => e = .returned (.bool (decide (P.count + (missN P SF []).length ≤ 2000))) ∧ Below w.heap.size w w' := by
  have hmm := @run_makeMap Tryz.prog
  obtain ⟨va, vc, hv⟩ := ownsRow_form hr
  subst hv
  obtain ⟨n, hn⟩ : ∃ n, SF.length = n := ⟨_, rfl⟩
  have HN : Hid _ := hn
  have HI0 : Hid (∃ ms, MsIs (w.alloc (.map #[] 0)) w.heap.size ms ∧ Below w.heap.size w (w.alloc (.map #[] 0)) ∧ missN P (SF.drop 0) ms = missN P SF [] ∧ ms.length ≤ 0) := ⟨[], MsIs.new w, (Below.refl _ _).alloc (Nat.le_refl _) _, rfl, Nat.le_refl _⟩
  have HM : Hid (_ ∧ _ ∧ _) := And.intro h (And.intro hr hok)
  rw [hn] at hSl ⊢
  clear h hr hok hn
  go_enter Tryz.func94, Tryz.ntmps94
  go_wp2_with fail
  generalize w.alloc (.map #[] 0) = w1 at *
  obtain ⟨mb, hmb⟩ : ∃ m, w.heap.size = m := ⟨_, rfl⟩
  have HMB : Hid _ := hmb
  rw [hmb] at HI0
  simp only [hmb]
  clear hmb hmm
  go_loopw [13] (fun t13 W => ∃ i : Nat, i ≤ n ∧ t13 = .int .i64 (i : Int) ∧ Hid (∃ ms, MsIs W mb ms ∧ Below mb w W ∧ missN P (SF.drop i) ms = missN P SF [] ∧ ms.length ≤ i)) (fun t13 _ => n - (intOf t13).toNat)
  case atStart => exact ⟨0, Nat.zero_le _, rfl, HI0⟩
  case round =>
    obtain ⟨i, hi, rfl, HJ⟩ := hrel
    clear HI0
    obtain ⟨ms, hMs, hB, hmN, hml⟩ := HJ.out
    by_cases hlt : i < n
    · have di : decide ((i : Int) < (n : Int)) = true := decide_eq_true (by omega)
      have hwi : IntKind.i64.wrap ((i : Int) + 1) = (i : Int) + 1 := by rw [IntKind.wrap_i64]; omega
      have hil : i < SF.length := by rw [HN.out]; exact hlt
      have hge := List.getElem?_eq_getElem hil
      have hdr : SF.drop i = SF[i] :: SF.drop (i + 1) := List.drop_eq_getElem_cons hil
      have hsok := HM.out.2.2 SF[i] (List.getElem_mem hil)
      generalize SF[i] = s at *
      obtain ⟨x0, x1, x2, x3, x4, x5, x6, x7, x8, x9, hfl⟩ := flat4_ex s.1 s.2
      have hs1 : s.1 = (x0, x1) := by
        have := hfl
        simp only [flat4, List.cons_append, List.cons.injEq] at this
        exact Prod.ext this.1 this.2.1
      rw [hs1] at hsok
      have hBw : Below w.heap.size w wr := by rw [HMB.out]; exact hB
      have hrw := ownsRow_below HM.out.2.1 hBw
      obtain ⟨gb, hgb⟩ : ∃ g, (Value.slice va SF.length vc).ownBlock = some g := by
        rcases hrw.2 with ⟨e, h0⟩ | ⟨g, cap, cur, e, _⟩
        · rw [h0] at hil; exact absurd hil (Nat.not_lt_zero _)
        · exact ⟨g, by rw [e]; rfl⟩
      have hva : va = some ⟨gb, 0, none⟩ := by
        rcases hrw.2 with ⟨e, h0⟩ | ⟨g, cap, cur, e, _⟩
        · rw [h0] at hil; exact absurd hil (Nat.not_lt_zero _)
        · cases e
          simp [Value.ownBlock] at hgb
          rw [hgb]
      subst hva
      have hcell : ∀ (j u : Nat), [x0, x1, x2, x3, x4, x5, x6, x7, x8, x9][j]? = some u → wr.cell? ⟨gb, i * 10 + j, none⟩ = some (.int .i64 (u : Int)) := fun j u hu => by
        have := hrw.cells (g := gb) hgb _ _ (stRow_get hge hfl j u hu)
        rw [Addr.add_lit, Nat.zero_add] at this
        exact this
      have y0 := hcell 0 x0 rfl
      rw [Nat.add_zero] at y0
      have y1 := hcell 1 x1 rfl
      have y2 := hcell 2 x2 rfl
      have y3 := hcell 3 x3 rfl
      have y4 := hcell 4 x4 rfl
      have y5 := hcell 5 x5 rfl
      have y6 := hcell 6 x6 rfl
      have y7 := hcell 7 x7 rfl
      have y8 := hcell 8 x8 rfl
      have y9 := hcell 9 x9 rfl
      rw [hdr, missN, hs1] at hmN
      have hBx : Below wr.heap.size wr (wr.alloc (.cells #[.int .i64 (x0 : Int), .int .i64 (x1 : Int), .int .i64 (x2 : Int), .int .i64 (x3 : Int), .int .i64 (x4 : Int), .int .i64 (x5 : Int), .int .i64 (x6 : Int), .int .i64 (x7 : Int), .int .i64 (x8 : Int), .int .i64 (x9 : Int)] 206)) := (Below.refl _ _).alloc (Nat.le_refl _) _
      have hPx := HM.out.1.below (below2 hBw hBx)
      have c3 : (wr.alloc (.cells #[.int .i64 (x0 : Int), .int .i64 (x1 : Int), .int .i64 (x2 : Int), .int .i64 (x3 : Int), .int .i64 (x4 : Int), .int .i64 (x5 : Int), .int .i64 (x6 : Int), .int .i64 (x7 : Int), .int .i64 (x8 : Int), .int .i64 (x9 : Int)] 206)).cell? ⟨pb, 3, none⟩ = some (.map (some vb)) := hPx.cells.cell (i := 3) (by omega)
      have LK : ∀ m, _ := fun m => (show VrIs ((wr.alloc (.cells #[.int .i64 (x0 : Int), .int .i64 (x1 : Int), .int .i64 (x2 : Int), .int .i64 (x3 : Int), .int .i64 (x4 : Int), .int .i64 (x5 : Int), .int .i64 (x6 : Int), .int .i64 (x7 : Int), .int .i64 (x8 : Int), .int .i64 (x9 : Int)] 206)).drewN m) vb P.vars from hPx.vars.keep rfl).look hsok
      obtain ⟨es, ck, hes⟩ := hMs.lt
      have hmlt := (Array.getElem?_eq_some_iff.1 hes).1
      have HMs : Hid (MsIs (wr.alloc (.cells #[.int .i64 (x0 : Int), .int .i64 (x1 : Int), .int .i64 (x2 : Int), .int .i64 (x3 : Int), .int .i64 (x4 : Int), .int .i64 (x5 : Int), .int .i64 (x6 : Int), .int .i64 (x7 : Int), .int .i64 (x8 : Int), .int .i64 (x9 : Int)] 206)) mb ms ∧ Below mb w (wr.alloc (.cells #[.int .i64 (x0 : Int), .int .i64 (x1 : Int), .int .i64 (x2 : Int), .int .i64 (x3 : Int), .int .i64 (x4 : Int), .int .i64 (x5 : Int), .int .i64 (x6 : Int), .int .i64 (x7 : Int), .int .i64 (x8 : Int), .int .i64 (x9 : Int)] 206))) := ⟨hMs.keep (hBx.block mb hmlt), hB.trans (hBx.mono (Nat.le_of_lt hmlt))⟩
      clear hcell hPx hBx hMs hB HJ hes hrw hgb hge hdr hBw
      cases hnv : numV P.vars (x0, x1) with
      | some z =>
        rw [hnv] at LK hmN
        have HK : Hid _ := hmN
        simp only [Option.getD_some, Option.isSome_some] at LK
        clear hmN hnv
        go_wp2_with fail
        go_quiet (fail)
        go_wp2_with fail
        refine ⟨⟨i + 1, hlt, by simp, ?_⟩, by simp [intOf]; omega⟩
        exact ⟨ms, HMs.out.1.keep rfl, ⟨HMs.out.2.os, HMs.out.2.tape, HMs.out.2.output, HMs.out.2.size, HMs.out.2.block⟩, HK.out, Nat.le_succ_of_le hml⟩
      | none =>
        rw [hnv] at LK hmN
        have HK : Hid _ := hmN
        simp only [Option.getD_none, Option.isSome_none] at LK
        clear hmN hnv
        go_wp2_with fail
        go_quiet (fail)
        obtain ⟨W2, r1, r2, r3⟩ := (show MsIs ((wr.alloc (.cells #[.int .i64 (x0 : Int), .int .i64 (x1 : Int), .int .i64 (x2 : Int), .int .i64 (x3 : Int), .int .i64 (x4 : Int), .int .i64 (x5 : Int), .int .i64 (x6 : Int), .int .i64 (x7 : Int), .int .i64 (x8 : Int), .int .i64 (x9 : Int)] 206)).drewN nq) mb ms from HMs.out.1.keep rfl).store hsok (by omega)
        have HF : Hid (_ ∧ _) := And.intro r2 r3
        clear r2 r3 LK
        go_wp2_with fail
        refine ⟨⟨i + 1, hlt, by simp, ?_⟩, by simp [intOf]; omega⟩
        refine ⟨_, HF.out.1, ?_, HK.out, Nat.le_trans (addP_len ms _) (by simp; omega)⟩
        have k2 := HF.out.2
        have b2 := HMs.out.2
        exact ⟨k2.os.trans b2.os, k2.tape.trans b2.tape, k2.output.trans b2.output, Nat.le_trans b2.size k2.size, fun j hj => (k2.block j (Nat.lt_of_lt_of_le hj (by rw [← HMB.out]; exact b2.size)) (by omega)).trans (b2.block j hj)⟩
    · have di : decide ((i : Int) < (n : Int)) = false := decide_eq_false (by omega)
      obtain rfl : i = n := by omega
      have hLe : ∀ m, _ := fun m => (show MsIs (wr.drewN m) mb ms from hMs.keep rfl).len 3
      have hBw : Below w.heap.size w wr := by rw [HMB.out]; exact hB
      have c4 : wr.cell? ⟨pb, 4, none⟩ = some (.int .i64 (P.count : Int)) := (HM.out.1.below hBw).cells.cell (i := 4) (by omega)
      have hLen : Hid (missN P SF [] = ms) := by
        show _ = _
        rw [← hmN, ← HN.out, List.drop_length]
        rfl
      have hwa : IntKind.i64.wrap ((P.count : Int) + (ms.length : Int)) = (P.count : Int) + (ms.length : Int) := by rw [IntKind.wrap_i64]; omega
      have HB : Hid _ := hBw
      have HD : Hid (decide ((P.count : Int) + (ms.length : Int) ≤ 2000) = decide (P.count + ms.length ≤ 2000)) := by
        show _ = _
        by_cases hle : P.count + ms.length ≤ 2000
        · rw [decide_eq_true hle, decide_eq_true (by omega)]
        · rw [decide_eq_false hle, decide_eq_false (by omega)]
      clear hMs hB hmN HJ hBw
      go_wp2_with fail
      go_quiet (fail)
      go_wp2_with fail
      go_ret
      rw [hLen.out, ← HD.out]
      exact ⟨rfl, ⟨HB.out.os, HB.out.tape, HB.out.output, HB.out.size, HB.out.block⟩⟩
end Go.Proofs.YtlehlgipbhfioaaGreat

namespace Go.Proofs.YtlehlgipbhfioaaGreat
open Go.RowKit Go.Maps

/-- A literal, renamed. -/
def renL (nm : List Nat) (x : Int) : Int := if x < 0 then -((nm[x.natAbs]?.getD 0 : Nat) : Int) else ((nm[x.natAbs]?.getD 0 : Nat) : Int)

set_option maxRecDepth 100000 in
set_option maxHeartbeats 1000000 in
theorem rename_in (w : World) (g cap : Nat) (c : List Int) (hg : Rw w g c) (hcl : c.length ≤ 1048576) (nb nc : Nat) (nm : List Nat) (hnm : ∀ (j n : Nat), nm[j]? = some n → w.cell? ⟨nb, j, none⟩ = some (.int .i64 (n : Int))) (hne : g ≠ nb) (hx : ∀ x ∈ c, x.natAbs < nm.length) (hnl : nm.length ≤ 1048576) (hns : ∀ n ∈ nm, n ≤ 1048576) :
    Calls Tryz.prog 81 #[.slice (some ⟨g, 0, none⟩) c.length cap, .slice (some ⟨nb, 0, none⟩) nm.length nc] w fun e w' => e = .returned (.tuple #[]) ∧ Rw w' g (c.map (renL nm)) ∧ Kept (fun k => k = g) w w' := by
  obtain ⟨n, hn⟩ : ∃ n, c.length = n := ⟨_, rfl⟩
  obtain ⟨nl, hnlq⟩ : ∃ n, nm.length = n := ⟨_, rfl⟩
  have HH : Hid (_ ∧ _ ∧ _ ∧ _ ∧ _) := And.intro hg (And.intro hnm (And.intro hx (And.intro hns (And.intro hn hnlq))))
  have HI0 : Hid (Rw w g ((c.take 0).map (renL nm) ++ c.drop 0) ∧ Kept (fun k => k = g) w w) := ⟨by simpa using hg, Kept.refl _ _⟩
  rw [hn, hnlq]
  rw [hn] at hcl
  rw [hnlq] at hnl
  clear hg hnm hx hns hn hnlq
  go_enter Tryz.func81, Tryz.ntmps81
  go_wp2_with fail
  go_loopw [8] (fun t8 W => ∃ i : Nat, i ≤ n ∧ t8 = .int .i64 (i : Int) ∧ Hid (Rw W g ((c.take i).map (renL nm) ++ c.drop i) ∧ Kept (fun k => k = g) w W)) (fun t8 _ => n - (intOf t8).toNat)
  case atStart => exact ⟨0, Nat.zero_le _, rfl, HI0⟩
  case round =>
    obtain ⟨i, hi, rfl, HJ⟩ := hrel
    clear HI0
    obtain ⟨hRw, hK⟩ := HJ.out
    obtain ⟨hg, hnm, hx, hns, hn, hnlq⟩ := HH.out
    by_cases hlt : i < n
    · have di : decide ((i : Int) < (n : Int)) = true := decide_eq_true (by omega)
      have hwi : IntKind.i64.wrap ((i : Int) + 1) = (i : Int) + 1 := wrap_nat1 (by omega)
      have hil : i < c.length := by omega
      have htl : ((c.take i).map (renL nm)).length = i := by simp; omega
      have hget : ((c.take i).map (renL nm) ++ c.drop i)[i]? = some c[i] := by
        rw [List.getElem?_append_right (by omega), htl, Nat.sub_self, List.getElem?_drop, Nat.add_zero, List.getElem?_eq_getElem hil]
      obtain ⟨q1, q2⟩ := hRw.at hget
      have hxi := hx c[i] (List.getElem_mem hil)
      have hab := hnm _ _ (List.getElem?_eq_getElem hxi)
      have hab2 : wr.cell? ⟨nb, c[i].natAbs, none⟩ = some (.int .i64 ((nm[c[i].natAbs]'hxi : Nat) : Int)) := by
        have hlt0 := World.block_lt_of_cell? w _ hab
        exact (World.cell?_of_block (a := ⟨nb, c[i].natAbs, none⟩) (hK.block nb hlt0 (fun e => hne e.symm))).trans hab
      have hvs := hns _ (List.getElem_mem hxi)
      have HF : Hid (∀ y, y = renL nm c[i] → Rw (wr.setCell ⟨g, i, none⟩ (.int .i64 y)) g ((c.take (i + 1)).map (renL nm) ++ c.drop (i + 1)) ∧ Kept (fun k => k = g) w (wr.setCell ⟨g, i, none⟩ (.int .i64 y))) := fun y hy => by
        refine ⟨?_, hK.setCell (p := ⟨g, i, none⟩) rfl _⟩
        have := hRw.set i y
        have e : ((c.take i).map (renL nm) ++ c.drop i).set i y = (c.take (i + 1)).map (renL nm) ++ c.drop (i + 1) := by
          rw [List.set_append_right _ _ (by omega), htl, Nat.sub_self, List.drop_eq_getElem_cons hil, List.set_cons_zero, List.take_add_one, List.getElem?_eq_getElem hil, Option.toList_some, List.map_append, List.append_assoc, hy]
          rfl
        rw [e] at this
        exact this
      have hren : renL nm c[i] = if c[i] < 0 then -((nm[c[i].natAbs]'hxi : Nat) : Int) else ((nm[c[i].natAbs]'hxi : Nat) : Int) := by
        unfold renL
        rw [List.getElem?_eq_getElem hxi, Option.getD_some]
      rw [hren] at HF
      generalize (nm[c[i].natAbs]'hxi) = y at *
      rw [hnlq] at hxi
      generalize c[i] = x at *
      have dab : decide ((x.natAbs : Int) < (nl : Int)) = true := decide_eq_true (by omega)
      have HK : Hid _ := hK
      clear hRw hK hget hab htl HJ hg hnm hx hns hn hnlq hren
      by_cases h0 : x < 0
      · have d0 : decide (x < 0) = true := decide_eq_true h0
        rw [if_pos h0] at HF
        obtain ⟨a, ha⟩ : ∃ a : Nat, x.natAbs = a := ⟨_, rfl⟩
        have hxa : x = -(a : Int) := by omega
        have hpos : 0 < a := by omega
        have dpos : decide (0 < a) = true := decide_eq_true hpos
        rw [ha] at hab2 hxi dab
        have hw1 := wrap_nat0 (a := a) (by omega)
        have hw2 := wrap_nat (a := a) (by omega)
        have hw3 : IntKind.i64.wrap (-(y : Int)) = -(y : Int) := by rw [IntKind.wrap_i64]; omega
        clear ha h0
        subst hxa
        go_wp2_with fail
        refine ⟨⟨i + 1, hlt, by simp, ?_⟩, by simp [intOf]; omega⟩
        exact HF.out _ rfl
      · have d0 : decide (x < 0) = false := decide_eq_false h0
        rw [if_neg h0] at HF
        obtain ⟨a, ha⟩ : ∃ a : Nat, x.natAbs = a := ⟨_, rfl⟩
        have hxa : x = (a : Int) := by omega
        rw [ha] at hab2 hxi dab
        clear ha h0
        subst hxa
        go_wp2_with fail
        refine ⟨⟨i + 1, hlt, by simp, ?_⟩, by simp [intOf]; omega⟩
        exact HF.out _ rfl
    · have di : decide ((i : Int) < (n : Int)) = false := decide_eq_false (by omega)
      obtain rfl : i = n := by omega
      have HF : Hid (Rw wr g (c.map (renL nm)) ∧ Kept (fun k => k = g) w wr) := by
        rw [← hn, List.take_length, List.drop_length, List.append_nil] at hRw
        exact ⟨hRw, hK⟩
      clear hRw hK HJ hg hnm hx hns hn hnlq
      go_wp2_with fail
      refine ⟨rfl, .tuple #[], by simp [results, Tryz.results81], rfl, HF.out.1, HF.out.2⟩
end Go.Proofs.YtlehlgipbhfioaaGreat

namespace Go.Proofs.YtlehlgipbhfioaaGreat
open Go.RowKit Go.Maps

theorem range_setq (n i : Nat) (hi : i < n) : (List.range i ++ List.replicate (n - i) 0).set i i = List.range (i + 1) ++ List.replicate (n - (i + 1)) 0 := by
  have e : n - i = (n - (i + 1)) + 1 := by omega
  rw [List.set_append_right _ _ (by simp), List.length_range, Nat.sub_self, e, List.replicate_succ, List.set_cons_zero, List.range_succ, List.append_assoc]
  rfl

set_option maxRecDepth 100000 in
set_option maxHeartbeats 1000000 in
theorem dall_in (w : World) (pb : Nat) (fa : Option Addr) (n fc : Nat) (hn : n ≤ 1048576) (c2 : w.cell? ⟨pb, 2, none⟩ = some (.slice fa n fc)) :
    Calls Tryz.prog 23 #[.pointer (some ⟨pb, 0, none⟩)] w fun e w' => e = .returned (.slice (some ⟨w.heap.size, 0, none⟩) n n) ∧ RowN w' w.heap.size (List.range n) ∧ Below w.heap.size w w' := by
  have m1 := make_intsq w n (by omega)
  have HI0 : Hid (RowN (w.alloc (.cells (Array.replicate n (Value.int .i64 0)) 3)) w.heap.size (List.range 0 ++ List.replicate (n - 0) 0) ∧ Below w.heap.size w (w.alloc (.cells (Array.replicate n (Value.int .i64 0)) 3))) := by
    refine ⟨?_, (Below.refl _ _).alloc (Nat.le_refl _) _⟩
    unfold RowN
    rw [heap_alloc_new]
    simp [i64]
  go_enter Tryz.func23, Tryz.ntmps23
  go_wp2_with fail
  generalize w.alloc (.cells (Array.replicate n (Value.int .i64 0)) 3) = w1 at *
  obtain ⟨g, hg⟩ : ∃ g, w.heap.size = g := ⟨_, rfl⟩
  have HG : Hid _ := hg
  rw [hg] at HI0
  simp only [hg]
  clear hg m1
  go_loopw [13] (fun t6 W => ∃ i : Nat, i ≤ n ∧ t6 = .int .i64 (i : Int) ∧ Hid (RowN W g (List.range i ++ List.replicate (n - i) 0) ∧ Below g w W)) (fun t6 _ => n - (intOf t6).toNat)
  case atStart => exact ⟨0, Nat.zero_le _, rfl, HI0⟩
  case round =>
    obtain ⟨i, hi, rfl, HJ⟩ := hrel
    clear HI0
    by_cases hlt : i < n
    · have di : decide ((i : Int) < (n : Int)) = true := decide_eq_true (by omega)
      have hwi : IntKind.i64.wrap ((i : Int) + 1) = (i : Int) + 1 := wrap_nat1 (by omega)
      have hl : i < (List.range i ++ List.replicate (n - i) 0).length := by simp; omega
      have q1 := HJ.out.1.cell (i := i) (List.getElem?_eq_getElem hl)
      have q2 := HJ.out.1.frozen i
      have HF : Hid (RowN (wr.setCell ⟨g, i, none⟩ (.int .i64 (i : Int))) g (List.range (i + 1) ++ List.replicate (n - (i + 1)) 0) ∧ Below g w (wr.setCell ⟨g, i, none⟩ (.int .i64 (i : Int)))) := by
        refine ⟨?_, HJ.out.2.setCell (p := ⟨g, i, none⟩) (Nat.le_refl _) _⟩
        have := HJ.out.1.set i i
        rw [range_setq n i hlt] at this
        exact this
      generalize ((List.range i ++ List.replicate (n - i) 0)[i]'hl) = y at *
      clear HJ hl
      go_wp2_with fail
      exact ⟨⟨i + 1, hlt, by simp, HF⟩, by simp [intOf]; omega⟩
    · have di : decide ((i : Int) < (n : Int)) = false := decide_eq_false (by omega)
      obtain rfl : i = n := by omega
      have HF : Hid (RowN wr w.heap.size (List.range i) ∧ Below w.heap.size w wr) := by
        rw [HG.out]
        have := HJ.out
        rw [Nat.sub_self, List.replicate_zero, List.append_nil] at this
        exact this
      clear HJ
      go_wp2_with fail
      go_ret
      rw [HG.out] at *
      exact ⟨rfl, by rw [← HG.out]; exact HF.out.1, by rw [← HG.out]; exact HF.out.2⟩
end Go.Proofs.YtlehlgipbhfioaaGreat

namespace Go.Proofs.YtlehlgipbhfioaaGreat
open Go.RowKit Go.Maps

/-- Whether a Form is whole, but for its Kids. -/
def whQ (op x y : Int) (kn n : Nat) : Bool :=
  if op = 0 then decide (kn = 0) && (decide (0 ≤ x ∧ x < n) && decide (0 ≤ y ∧ y < n))
  else if op = 1 then decide (kn = 1) && decide (x = 0 ∧ y = 0)
  else if op = 2 ∨ op = 3 ∨ op = 4 then decide (kn = 2) && decide (x = 0 ∧ y = 0) else false

set_option maxRecDepth 100000 in
set_option maxHeartbeats 1000000 in
theorem isWhole_0 (w : World) (b o : Nat) (x y : Int) (ka : Option Addr) (kn kc n : Nat) (c0 : w.cell? ⟨b, o, none⟩ = some (.int .i64 0)) (c1 : w.cell? ⟨b, o + 1, none⟩ = some (.int .i64 x)) (c2 : w.cell? ⟨b, o + 2, none⟩ = some (.int .i64 y)) (c3 : w.cell? ⟨b, o + 3, none⟩ = some (.slice ka kn kc)) :
    Calls Tryz.prog 76 #[.pointer (some ⟨b, o, none⟩), .int .i64 (n : Int)] w fun e w' => e = .returned (.bool (whQ 0 x y kn n)) ∧ Below w.heap.size w w' := by
  have B1 : ∀ W, _ := fun W => below_in W x n
  have B2 : ∀ W, _ := fun W => below_in W y n
  by_cases hk : kn = 0
  · subst hk
    cases hx : decide (0 ≤ x ∧ x < (n : Int))
    · rw [hx] at B1
      have HW : Hid (whQ 0 x y 0 n = false) := by show _ = _; simp only [whQ, if_true, hx, Bool.false_and, Bool.and_false]
      clear hx
      go_enter Tryz.func76, Tryz.ntmps76
      go_wp2_with (first | (go_at_call 116; refine (B1 _).mono ?_; rintro e w3 ⟨rfl, rfl⟩))
      go_ret
      exact ⟨by rw [HW.out]; rfl, Below.refl _ _⟩
    · rw [hx] at B1
      have HW : Hid (whQ 0 x y 0 n = decide (0 ≤ y ∧ y < (n : Int))) := by show _ = _; simp only [whQ, if_true, hx, Bool.true_and, decide_true]
      clear hx
      generalize decide (0 ≤ y ∧ y < (n : Int)) = yb at *
      go_enter Tryz.func76, Tryz.ntmps76
      go_wp2_with (first | (go_at_call 116; refine (B1 _).mono ?_; rintro e w3 ⟨rfl, rfl⟩; refine Aside.out ?_))
      delta Aside
      apply_assumption
      go_wp2_with (first | (go_at_call 116; refine (B2 _).mono ?_; rintro e w3 ⟨rfl, rfl⟩))
      go_ret
      exact ⟨by rw [HW.out]; rfl, Below.refl _ _⟩
  · have hk2 : ((kn : Int) == 0) = false := by simp; omega
    have HW : Hid (whQ 0 x y kn n = false) := by show _ = _; simp only [whQ, if_true, decide_eq_false hk, Bool.false_and]
    go_enter Tryz.func76, Tryz.ntmps76
    go_wp2_with fail
    go_ret
    exact ⟨by rw [HW.out]; rfl, Below.refl _ _⟩

set_option maxRecDepth 100000 in
set_option maxHeartbeats 1000000 in
theorem isWhole_1 (w : World) (b o : Nat) (x y : Int) (ka : Option Addr) (kn kc n : Nat) (c0 : w.cell? ⟨b, o, none⟩ = some (.int .i64 1)) (c1 : w.cell? ⟨b, o + 1, none⟩ = some (.int .i64 x)) (c2 : w.cell? ⟨b, o + 2, none⟩ = some (.int .i64 y)) (c3 : w.cell? ⟨b, o + 3, none⟩ = some (.slice ka kn kc)) :
    Calls Tryz.prog 76 #[.pointer (some ⟨b, o, none⟩), .int .i64 (n : Int)] w fun e w' => e = .returned (.bool (whQ 1 x y kn n)) ∧ Below w.heap.size w w' := by
  by_cases hk : kn = 1
  · subst hk
    by_cases hx : x = 0
    · subst hx
      by_cases hy : y = 0
      · subst hy
        have HW : Hid (whQ 1 0 0 1 n = true) := by show _ = _; simp [whQ]
        go_enter Tryz.func76, Tryz.ntmps76
        go_wp2_with fail
        go_ret
        exact ⟨by rw [HW.out]; rfl, Below.refl _ _⟩
      · have HW : Hid (whQ 1 0 y 1 n = false) := by show _ = _; simp [whQ, hy]
        go_enter Tryz.func76, Tryz.ntmps76
        go_wp2_with fail
        go_ret
        exact ⟨by rw [HW.out]; rfl, Below.refl _ _⟩
    · have HW : Hid (whQ 1 x y 1 n = false) := by show _ = _; simp [whQ, hx]
      go_enter Tryz.func76, Tryz.ntmps76
      go_wp2_with fail
      go_ret
      exact ⟨by rw [HW.out]; rfl, Below.refl _ _⟩
  · have hk2 : ((kn : Int) == 1) = false := by simp; omega
    have HW : Hid (whQ 1 x y kn n = false) := by show _ = _; simp [whQ, hk]
    go_enter Tryz.func76, Tryz.ntmps76
    go_wp2_with fail
    go_ret
    exact ⟨by rw [HW.out]; rfl, Below.refl _ _⟩

set_option maxRecDepth 100000 in
set_option maxHeartbeats 1000000 in
theorem isWhole_2 (w : World) (b o : Nat) (x y : Int) (ka : Option Addr) (kn kc n : Nat) (c0 : w.cell? ⟨b, o, none⟩ = some (.int .i64 2)) (c1 : w.cell? ⟨b, o + 1, none⟩ = some (.int .i64 x)) (c2 : w.cell? ⟨b, o + 2, none⟩ = some (.int .i64 y)) (c3 : w.cell? ⟨b, o + 3, none⟩ = some (.slice ka kn kc)) :
    Calls Tryz.prog 76 #[.pointer (some ⟨b, o, none⟩), .int .i64 (n : Int)] w fun e w' => e = .returned (.bool (whQ 2 x y kn n)) ∧ Below w.heap.size w w' := by
  by_cases hk : kn = 2
  · subst hk
    by_cases hx : x = 0
    · subst hx
      by_cases hy : y = 0
      · subst hy
        have HW : Hid (whQ 2 0 0 2 n = true) := by show _ = _; simp [whQ]
        go_enter Tryz.func76, Tryz.ntmps76
        go_wp2_with fail
        go_ret
        exact ⟨by rw [HW.out]; rfl, Below.refl _ _⟩
      · have HW : Hid (whQ 2 0 y 2 n = false) := by show _ = _; simp [whQ, hy]
        go_enter Tryz.func76, Tryz.ntmps76
        go_wp2_with fail
        go_ret
        exact ⟨by rw [HW.out]; rfl, Below.refl _ _⟩
    · have HW : Hid (whQ 2 x y 2 n = false) := by show _ = _; simp [whQ, hx]
      go_enter Tryz.func76, Tryz.ntmps76
      go_wp2_with fail
      go_ret
      exact ⟨by rw [HW.out]; rfl, Below.refl _ _⟩
  · have hk2 : ((kn : Int) == 2) = false := by simp; omega
    have HW : Hid (whQ 2 x y kn n = false) := by show _ = _; simp [whQ, hk]
    go_enter Tryz.func76, Tryz.ntmps76
    go_wp2_with fail
    go_ret
    exact ⟨by rw [HW.out]; rfl, Below.refl _ _⟩

set_option maxRecDepth 100000 in
set_option maxHeartbeats 1000000 in
theorem isWhole_3 (w : World) (b o : Nat) (x y : Int) (ka : Option Addr) (kn kc n : Nat) (c0 : w.cell? ⟨b, o, none⟩ = some (.int .i64 3)) (c1 : w.cell? ⟨b, o + 1, none⟩ = some (.int .i64 x)) (c2 : w.cell? ⟨b, o + 2, none⟩ = some (.int .i64 y)) (c3 : w.cell? ⟨b, o + 3, none⟩ = some (.slice ka kn kc)) :
    Calls Tryz.prog 76 #[.pointer (some ⟨b, o, none⟩), .int .i64 (n : Int)] w fun e w' => e = .returned (.bool (whQ 3 x y kn n)) ∧ Below w.heap.size w w' := by
  by_cases hk : kn = 2
  · subst hk
    by_cases hx : x = 0
    · subst hx
      by_cases hy : y = 0
      · subst hy
        have HW : Hid (whQ 3 0 0 2 n = true) := by show _ = _; simp [whQ]
        go_enter Tryz.func76, Tryz.ntmps76
        go_wp2_with fail
        go_ret
        exact ⟨by rw [HW.out]; rfl, Below.refl _ _⟩
      · have HW : Hid (whQ 3 0 y 2 n = false) := by show _ = _; simp [whQ, hy]
        go_enter Tryz.func76, Tryz.ntmps76
        go_wp2_with fail
        go_ret
        exact ⟨by rw [HW.out]; rfl, Below.refl _ _⟩
    · have HW : Hid (whQ 3 x y 2 n = false) := by show _ = _; simp [whQ, hx]
      go_enter Tryz.func76, Tryz.ntmps76
      go_wp2_with fail
      go_ret
      exact ⟨by rw [HW.out]; rfl, Below.refl _ _⟩
  · have hk2 : ((kn : Int) == 2) = false := by simp; omega
    have HW : Hid (whQ 3 x y kn n = false) := by show _ = _; simp [whQ, hk]
    go_enter Tryz.func76, Tryz.ntmps76
    go_wp2_with fail
    go_ret
    exact ⟨by rw [HW.out]; rfl, Below.refl _ _⟩

set_option maxRecDepth 100000 in
set_option maxHeartbeats 1000000 in
theorem isWhole_4 (w : World) (b o : Nat) (x y : Int) (ka : Option Addr) (kn kc n : Nat) (c0 : w.cell? ⟨b, o, none⟩ = some (.int .i64 4)) (c1 : w.cell? ⟨b, o + 1, none⟩ = some (.int .i64 x)) (c2 : w.cell? ⟨b, o + 2, none⟩ = some (.int .i64 y)) (c3 : w.cell? ⟨b, o + 3, none⟩ = some (.slice ka kn kc)) :
    Calls Tryz.prog 76 #[.pointer (some ⟨b, o, none⟩), .int .i64 (n : Int)] w fun e w' => e = .returned (.bool (whQ 4 x y kn n)) ∧ Below w.heap.size w w' := by
  by_cases hk : kn = 2
  · subst hk
    by_cases hx : x = 0
    · subst hx
      by_cases hy : y = 0
      · subst hy
        have HW : Hid (whQ 4 0 0 2 n = true) := by show _ = _; simp [whQ]
        go_enter Tryz.func76, Tryz.ntmps76
        go_wp2_with fail
        go_ret
        exact ⟨by rw [HW.out]; rfl, Below.refl _ _⟩
      · have HW : Hid (whQ 4 0 y 2 n = false) := by show _ = _; simp [whQ, hy]
        go_enter Tryz.func76, Tryz.ntmps76
        go_wp2_with fail
        go_ret
        exact ⟨by rw [HW.out]; rfl, Below.refl _ _⟩
    · have HW : Hid (whQ 4 x y 2 n = false) := by show _ = _; simp [whQ, hx]
      go_enter Tryz.func76, Tryz.ntmps76
      go_wp2_with fail
      go_ret
      exact ⟨by rw [HW.out]; rfl, Below.refl _ _⟩
  · have hk2 : ((kn : Int) == 2) = false := by simp; omega
    have HW : Hid (whQ 4 x y kn n = false) := by show _ = _; simp [whQ, hk]
    go_enter Tryz.func76, Tryz.ntmps76
    go_wp2_with fail
    go_ret
    exact ⟨by rw [HW.out]; rfl, Below.refl _ _⟩

set_option maxRecDepth 100000 in
set_option maxHeartbeats 1000000 in
theorem dWhole_in (w : World) (b o : Nat) (op x y : Int) (ka : Option Addr) (kn kc n : Nat) (c0 : w.cell? ⟨b, o, none⟩ = some (.int .i64 op)) (c1 : w.cell? ⟨b, o + 1, none⟩ = some (.int .i64 x)) (c2 : w.cell? ⟨b, o + 2, none⟩ = some (.int .i64 y)) (c3 : w.cell? ⟨b, o + 3, none⟩ = some (.slice ka kn kc)) :
    Calls Tryz.prog 76 #[.pointer (some ⟨b, o, none⟩), .int .i64 (n : Int)] w fun e w' => e = .returned (.bool (whQ op x y kn n)) ∧ Below w.heap.size w w' := by
  by_cases h0 : op = 0
  · subst h0; exact isWhole_0 w b o x y ka kn kc n c0 c1 c2 c3
  by_cases h1 : op = 1
  · subst h1; exact isWhole_1 w b o x y ka kn kc n c0 c1 c2 c3
  by_cases h2 : op = 2
  · subst h2; exact isWhole_2 w b o x y ka kn kc n c0 c1 c2 c3
  by_cases h3 : op = 3
  · subst h3; exact isWhole_3 w b o x y ka kn kc n c0 c1 c2 c3
  by_cases h4 : op = 4
  · subst h4; exact isWhole_4 w b o x y ka kn kc n c0 c1 c2 c3
  have HW : Hid (whQ op x y kn n = false) := by show _ = _; simp [whQ, h0, h1, h2, h3, h4]
  have d0 : (op == 0) = false := by simpa using h0
  have d1 : (op == 1) = false := by simpa using h1
  have d2 : (op == 2) = false := by simpa using h2
  have d3 : (op == 3) = false := by simpa using h3
  have d4 : (op == 4) = false := by simpa using h4
  clear h0 h1 h2 h3 h4
  go_enter Tryz.func76, Tryz.ntmps76
  go_wp2_with fail
  go_ret
  exact ⟨by rw [HW.out]; rfl, Below.refl _ _⟩

end Go.Proofs.YtlehlgipbhfioaaGreat

namespace Go.Proofs.YtlehlgipbhfioaaGreat
open Go.RowKit Go.Maps

/-- A pointer into cells that are nowhere shared with a string. -/
def PtOk (w : World) (v : Value) : Prop := ∃ b o c t, v = .pointer (some ⟨b, o, none⟩) ∧ w.heap[b]? = some (.cells c t (0, 0))

theorem eqPtr (w : World) (u v : Value) (hu : PtOk w u) (hv : PtOk w v) : ∃ r, (Op.equal 161 u v).run Tryz.prog w = .ok r w ∧ (r = true → v = u) := by
  obtain ⟨b, o, c, t, rfl, h1⟩ := hu
  obtain ⟨b', o', c', t', rfl, h2⟩ := hv
  have hu : Tryz.prog.underlying 161 = some (.pointer 36) := Tryz.underlying161
  have hz := Tryz.sizeOf36 w
  have key : (Op.equalIn 10000 161 (.pointer (some ⟨b, o, none⟩)) (.pointer (some ⟨b', o', none⟩))).run Tryz.prog w = (sameAddr ⟨b, o, none⟩ ⟨b', o', none⟩).run Tryz.prog w := by
    rw [show (10000 : Nat) = 9999 + 1 from rfl, Op.equalIn]
    simp [run_underlying hu, hz]
  by_cases e : (⟨b, o, none⟩ : Addr) = ⟨b', o', none⟩
  · exact ⟨true, by rw [show Op.equal 161 = Op.equalIn 10000 161 from rfl, key, e]; exact run_sameAddr_same w _, fun _ => by rw [e]⟩
  · exact ⟨false, by rw [show Op.equal 161 = Op.equalIn 10000 161 from rfl, key]; exact run_sameAddr_other w e h1 h2, by simp⟩

theorem findPtr (w : World) (k : Value) (hk : PtOk w k) : ∀ (es : List MapEntry) (i : Nat), (∀ e ∈ es, PtOk w e.key) → ∃ r, (Instr.findAsking 161 k es i).run Tryz.prog w = .ok r w ∧ ∀ j v, r = some (j, v) → ∃ e, i ≤ j ∧ es[j - i]? = some e ∧ e.val = v ∧ e.key = k
  | [], i, _ => ⟨none, by simp [Instr.findAsking], by simp⟩
  | e :: es, i, h => by
    obtain ⟨r, hr, hs⟩ := eqPtr w k e.key hk (h e (by simp))
    cases r
    · obtain ⟨r2, h1, h2⟩ := findPtr w k hk es (i + 1) (fun e he => h e (by simp [he]))
      refine ⟨r2, by simp [Instr.findAsking, hr, h1], fun j v hv => ?_⟩
      obtain ⟨e', hi, he', e2⟩ := h2 j v hv
      exact ⟨e', by omega, by rw [show j - i = (j - (i + 1)) + 1 by omega]; simpa using he', e2⟩
    · exact ⟨some (i, e.val), by simp [Instr.findAsking, hr], fun j v hv => by cases hv; exact ⟨e, Nat.le_refl _, by simp, rfl, hs rfl⟩⟩

/-- A set of pointers, whichever, into what lay at w0. -/
def PtSet (w0 w : World) (mb : Nat) : Prop := ∃ es clock, w.heap[mb]? = some (Obj.map es clock) ∧ ∀ e ∈ es.toList, PtOk w0 e.key ∧ e.val = .agg #[]
theorem PtOk.up {w0 w : World} (hB : Below w0.heap.size w0 w) {v : Value} (h : PtOk w0 v) : PtOk w v := by
  obtain ⟨b, o, c, t, e, h1⟩ := h
  exact ⟨b, o, c, t, e, (hB.block b (Array.getElem?_eq_some_iff.1 h1).1).trans h1⟩
theorem PtSet.keep {w0 w w' : World} {mb : Nat} (h : PtSet w0 w mb) (hb : w'.heap[mb]? = w.heap[mb]?) : PtSet w0 w' mb := by
  obtain ⟨es, clock, h1, h2⟩ := h
  exact ⟨es, clock, hb.trans h1, h2⟩
theorem PtSet.new (w0 W : World) : PtSet w0 (W.alloc (.map #[] 0)) W.heap.size := ⟨#[], 0, heap_alloc_new _ _, fun e h => by simp at h⟩

theorem ckPtr (w : World) (b : Bool) (k : Value) (hk : PtOk w k) : (Instr.checkKey b 10000 161 k).run Tryz.prog w = .ok () w := by
  obtain ⟨b1, o, c, t, rfl, h1⟩ := hk
  have hu : Tryz.prog.underlying 161 = some (.pointer 36) := Tryz.underlying161
  rw [show (10000 : Nat) = 9999 + 1 from rfl, Instr.checkKey]
  simp [run_underlying hu]
theorem fkPtr (w : World) (k : Value) (hk : PtOk w k) (es : List MapEntry) (h : ∀ e ∈ es, PtOk w e.key) : ∃ r, (Instr.findKey 161 k es).run Tryz.prog w = .ok r w ∧ ∀ j v, r = some (j, v) → ∃ e, es[j]? = some e ∧ e.val = v ∧ e.key = k := by
  have hu : Tryz.prog.underlying 161 = some (.pointer 36) := Tryz.underlying161
  cases es with
  | nil => exact ⟨none, by simp [Instr.findKey, run_underlying hu, Instr.findNow], by simp⟩
  | cons e es =>
    obtain ⟨r, h1, h2⟩ := findPtr w k hk (e :: es) 0 h
    refine ⟨r, ?_, fun j v hv => by obtain ⟨e, _, he, x⟩ := h2 j v hv; exact ⟨e, by simpa using he, x⟩⟩
    clear h2
    obtain ⟨b1, o, c, t, rfl, _⟩ := hk
    have hn : Instr.findNow (.pointer 36) (.pointer (some ⟨b1, o, none⟩)) (e :: es) 0 = none := by
      simp [Instr.findNow, Instr.sameNow]
    simp [Instr.findKey, run_underlying hu, hn, h1]
theorem PtSet.look {w0 w : World} {mb : Nat} (h : PtSet w0 w mb) (hB : Below w0.heap.size w0 w) {k : Value} (hk0 : PtOk w0 k) : ∃ r : Bool, (Instr.lookup 160 (.map (some mb)) k true).run Tryz.prog w = .ok (.tuple #[.agg #[], .bool r]) w := by
  obtain ⟨es, clock, h1, h2⟩ := h
  have hk := hk0.up hB
  have hu : Tryz.prog.underlying 160 = some (.map 161 162) := Tryz.underlying160
  obtain ⟨r, r1, r2⟩ := fkPtr w k hk es.toList (fun e he => (h2 e he).1.up hB)
  have ck := ckPtr w es.isEmpty k hk
  have hz := zeroU w
  have hg := Go.MapKept.run_getObj_map (P := Tryz.prog) h1
  cases r with
  | none => exact ⟨false, by simp [Instr.lookup, run_underlying hu, hg, ck, r1, hz]⟩
  | some p =>
    obtain ⟨e, he, hv, _⟩ := r2 p.1 p.2 rfl
    have hv2 : p.2 = .agg #[] := by rw [← hv]; exact (h2 e (List.mem_of_getElem? he)).2
    exact ⟨true, by simp [Instr.lookup, run_underlying hu, hg, ck, r1, hv2]⟩

theorem PtSet.set {w0 w : World} {mb : Nat} {es es' : Array MapEntry} {clock c' : Nat} (h1 : w.heap[mb]? = some (Obj.map es clock)) (h2 : ∀ e ∈ es'.toList, PtOk w0 e.key ∧ e.val = .agg #[]) :
    PtSet w0 { w with heap := w.heap.setIfInBounds mb (.map es' c') } mb ∧ Kept1 mb w { w with heap := w.heap.setIfInBounds mb (.map es' c') } := by
  have H := Go.MapKept.heap_set (o' := .map es' c') h1
  exact ⟨⟨es', c', H.1, h2⟩, ⟨rfl, rfl, rfl, by simp, fun k _ hs => H.2 k hs⟩⟩
theorem PtSet.store {w0 w : World} {mb : Nat} (h : PtSet w0 w mb) (hB : Below w0.heap.size w0 w) {k : Value} (hk0 : PtOk w0 k) : ∃ w', (Instr.mapUpdate 160 (.map (some mb)) k (.agg #[])).run Tryz.prog w = .ok () w' ∧ PtSet w0 w' mb ∧ Kept1 mb w w' := by
  obtain ⟨es, clock, h1, h2⟩ := h
  have hk := hk0.up hB
  have hu : Tryz.prog.underlying 160 = some (.map 161 162) := Tryz.underlying160
  obtain ⟨r, r1, r2⟩ := fkPtr w k hk es.toList (fun e he => (h2 e he).1.up hB)
  have ck := ckPtr w false k hk
  have hg := Go.MapKept.run_getObj_map (P := Tryz.prog) h1
  cases r with
  | none =>
    refine ⟨_, by simp [Instr.mapUpdate, run_underlying hu, hg, ck, r1, Go.MapKept.run_setObj_map _ h1]; rfl, PtSet.set h1 ?_⟩
    intro e he
    simp only [Array.toList_push, List.mem_append, List.mem_singleton] at he
    rcases he with he | rfl
    · exact h2 e he
    · exact ⟨hk0, rfl⟩
  | some p =>
    obtain ⟨e, he, hv, hke⟩ := r2 p.1 p.2 rfl
    have he2 : es[p.1]? = some e := by simpa using he
    have ks : (Instr.keyThatStays k k).run Tryz.prog w = .ok k w := by
      obtain ⟨b1, o, c, t, rfl, _⟩ := hk
      simp [Instr.keyThatStays, Instr.sameBits]
    refine ⟨_, by simp [Instr.mapUpdate, run_underlying hu, hg, ck, r1, he2, hke, ks, Go.MapKept.run_setObj_map _ h1]; rfl, PtSet.set h1 ?_⟩
    intro x hx
    rcases Go.MapFrom.mem_modify hx with hx | ⟨e', _, rfl⟩
    · exact h2 x hx
    · exact ⟨hk0, rfl⟩

end Go.Proofs.YtlehlgipbhfioaaGreat
