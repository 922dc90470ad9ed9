/- Package logic: Clauses, of a formula. Package decide: add, plainly: the names. Package decide: add, in memory: its clauses are renamed, its formula is appended. Package decide: newProblem: what it works on. Package decide: model. Package decide: Solve takes what decide hands it. -/
import Derived.Test.YtlehlgipbhfioaaGreatP45
import Derived.Test.YtlehlgipbhfioaaGreatFiB
import Derived.Test.YtlehlgipbhfioaaGreatP34
import Derived.Test.YtlehlgipbhfioaaGreatP50
import Derived.Test.YtlehlgipbhfioaaGreatP17
namespace Go.Proofs.YtlehlgipbhfioaaGreat
open Go.RowKit Go.Shelf

theorem ClauseG_in (w : World) (v : Value) (f : Fo) (hv : FIs w v f) (hwf : WfF f) (hN : szF f ≤ 1048576) (hR : RF f) (ps : List (Int × Int)) (hps : ps = ats (eqF f)) (hpl : ps.length ≤ 1048576) (R : Int × Sc) (hRR : R = Cn.tse (numP ps) f (ps.length, [])) :
    Calls Tryz.prog 77 #[v] w fun e w' => ∃ ca cc, e = .returned (.tuple #[.slice ca (R.2.2 ++ [[R.1]]).length cc, .int .i64 (R.2.1 : Int)]) ∧ Cl2 w' ca (R.2.2 ++ [[R.1]]) ∧ ClOwn w.heap.size w' (.slice ca (R.2.2 ++ [[R.1]]).length cc) (R.2.2 ++ [[R.1]]) ∧ Below w.heap.size w w' := by
  have hv0 := hv
  obtain ⟨op, x, y, kv, kids, rfl, hk, hks, hfe⟩ := hv
  obtain ⟨ka, kc, hkv, _⟩ := id hk
  subst hkv
  obtain ⟨t, ht⟩ : ∃ t, t = Lf.mk w.heap.size 0 op x y (.slice ka kids.length kc) kids := ⟨_, rfl⟩
  have hkt : t.kids = kids := by rw [ht]; rfl
  have he : t.er = f := by rw [ht, Lf.er, hfe]
  have hte : t = .mk w.heap.size 0 op x y (.slice ka kids.length kc) t.kids := by rw [hkt]; exact ht
  rw [← hkt] at hk hks
  have htb : t.b = w.heap.size ∧ t.o = 0 := by rw [hte]; exact ⟨rfl, rfl⟩
  have hlen : (es t).length ≤ 1048576 := by
    have h1 : (es t).length ≤ (wk t 0).length := List.length_filterMap_le isEnd (wk t 0)
    rw [len_wk, he] at h1
    omega
  have FO : Hid (∀ (W : World) (u : Value), ClS w W t u ps ps.length → Calls Tryz.prog 119 #[.pointer (some ⟨w.heap.size, 0, none⟩), .func (.func 120) #[.pointer (some ⟨w.heap.size + 2, 0, none⟩)] #[]] W fun e w' => e = .returned (.int .i64 R.1) ∧ Made (fun k => k = w.heap.size + 2 ∨ k = w.heap.size + 1) W w' (w.heap.size + 2) (w.heap.size + 1) ps (.slice none 0 0) R.2) := fun W u h => by
    have hm := h.maker
    rw [List.take_length] at hm
    have hwt : WfF t.er := by rw [he]; exact hwf
    have hok := stC_ok (numP ps) hwt ps.length (fun p _ => numP_le ps p)
    have := foldi_in W t (numP ps) ps.length _ (w.heap.size + 2) (w.heap.size + 1) ps (.slice none 0 0) h.here (by rw [len_wk, he]; omega) hm (fun W' S rv i z sv args hz hM hH ha hA hal => by
      have hil := (List.getElem?_eq_some_iff.1 hz).1
      obtain ⟨o1, o2, o3, o4⟩ := hok i (by omega)
      have hzm := List.mem_of_getElem? hz
      exact literal_in W' S (w.heap.size + 2) (w.heap.size + 1) ps rv _ hM (by omega) (by omega) z hH (whl_wf (es_wf hwt t rfl z hzm)) (es_R (by rw [he]; exact hR) z hzm) sv args hA hal (fun v hv => by
        rw [ha] at hv
        have := o1 v (List.mem_of_mem_drop hv)
        omega)) R.1 R.2 (by rw [stC_all _ hwt, he, ← hRR])
    rw [htb.1, htb.2] at this
    exact this
  have hcn := Cn.tse_count (numP ps) hwf (ps.length, [])
  have hct := Cn.cnt_told hwf
  have hcl := cnt_le hwf
  have h := clauses_w w op x y ka kids.length kc t f hte he hv0 hN hR (by rw [hkt] at hk ⊢; exact hk) hks ps hps hpl R (by rw [hRR, hcn.2]; simp; omega) FO
  exact h
theorem ClauseF_in (w : World) (v : Value) (f : Fo) (hv : FIs w v f) (hwf : WfF f) (hN : szF f ≤ 1048576) (hR : RF f) (ps : List (Int × Int)) (hps : ps = ats (eqF f)) (hpl : ps.length ≤ 1048576) (R : Int × Sc) (hRR : R = Cn.tse (numP ps) f (ps.length, [])) :
    Calls Tryz.prog 77 #[v] w fun e w' => ∃ ca cc, e = .returned (.tuple #[.slice ca (R.2.2 ++ [[R.1]]).length cc, .int .i64 (R.2.1 : Int)]) ∧ Cl2 w' ca (R.2.2 ++ [[R.1]]) ∧ Below w.heap.size w w' :=
  (ClauseG_in w v f hv hwf hN hR ps hps hpl R hRR).mono fun _ _ ⟨ca, cc, h1, h2, _, h3⟩ => ⟨ca, cc, h1, h2, h3⟩

end Go.Proofs.YtlehlgipbhfioaaGreat

namespace Go.Proofs.YtlehlgipbhfioaaGreat
open Go.RowKit Go.Maps

/-- The variables' numbers are at most as many as there are. -/
def VqP (P : Pb) : Prop := ∀ e ∈ P.vars, e.2 ≤ P.count
theorem vari_small {P : Pb} (h : VqP P) (a : Pr) : VqP (P.vari a).2 ∧ (P.vari a).1 ≤ (P.vari a).2.count ∧ P.count ≤ (P.vari a).2.count ∧ (P.vari a).2.count ≤ P.count + 1 ∧ (P.vari a).2.vars.length ≤ P.vars.length + 1 ∧ (P.vari a).2.lemmas.length ≤ P.lemmas.length + 1 := by
  unfold Pb.vari
  cases hn : P.num a with
  | some x =>
    refine ⟨h, ?_, Nat.le_refl _, Nat.le_succ _, Nat.le_succ _, Nat.le_succ _⟩
    unfold Pb.num at hn
    cases hf : P.vars.find? fun e => decide (e.1 = a) with
    | none => rw [hf] at hn; cases hn
    | some e =>
      rw [hf] at hn
      cases hn
      exact h e (List.mem_of_find?_eq_some hf)
  | none =>
    refine ⟨fun e he => ?_, Nat.le_refl _, Nat.le_succ _, Nat.le_refl _, by simp, ?_⟩
    · rcases List.mem_append.1 he with he | he
      · exact Nat.le_succ_of_le (h e he)
      · simp at he
        subst he
        exact Nat.le_refl _
    · show (if a.1 = a.2 then _ else _ : List (List Int)).length ≤ _
      split <;> simp
theorem names_small : ∀ (r : List Pr) (P : Pb), VqP P → VqP (Pb.names r P).2 ∧ (∀ x ∈ (Pb.names r P).1, x ≤ (Pb.names r P).2.count) ∧ P.count ≤ (Pb.names r P).2.count ∧ (Pb.names r P).2.count ≤ P.count + r.length ∧ (Pb.names r P).2.vars.length ≤ P.vars.length + r.length ∧ (Pb.names r P).2.lemmas.length ≤ P.lemmas.length + r.length
  | [], P, h => ⟨h, fun _ hx => by simp [Pb.names] at hx, Nat.le_refl _, Nat.le_refl _, Nat.le_refl _, Nat.le_refl _⟩
  | a :: r, P, h => by
    obtain ⟨a1, a2, a3, a4, a5, a6⟩ := vari_small h a
    obtain ⟨b1, b2, b3, b4, b5, b6⟩ := names_small r (P.vari a).2 a1
    rw [Pb.names]
    simp only [List.length_cons]
    refine ⟨b1, fun x hx => ?_, by omega, by omega, by omega, by omega⟩
    rcases List.mem_cons.1 hx with rfl | hx
    · omega
    · exact b2 x hx
theorem tse_few (an : Int × Int → Nat) {f : Fo} (hw : WfF f) : ∀ st : Sc, (∀ c ∈ st.2, c.length ≤ 3) → ∀ c ∈ (Cn.tse an f st).2.2, c.length ≤ 3 := by
  have hb : ∀ (p q : Int) (st : Sc), (∀ c ∈ st.2, c.length ≤ 3) → ∀ c ∈ (Cn.both p q st).2.2, c.length ≤ 3 := by
    intro p q st h c hc
    unfold Cn.both at hc
    rcases List.mem_append.1 hc with hc | hc
    · exact h c hc
    · simp at hc
      rcases hc with rfl | rfl | rfl <;> simp
  induction hw with
  | eq x y => intro st h; simpa [Cn.tse] using h
  | neg f hf ih =>
    intro st h
    have := ih st h
    simpa [Cn.tse] using this
  | two o f g ho hf hg ih1 ih2 =>
    intro st h
    have := ih2 _ (ih1 st h)
    rcases ho with rfl | rfl | rfl
    · rw [Cn.tse] <;> simp
      exact fun c hc => hb _ _ _ this c hc
    · rw [Cn.tse] <;> simp
      exact fun c hc => hb _ _ _ this c hc
    · rw [Cn.tse] <;> simp
      exact fun c hc => hb _ _ _ this c hc
/-- A formula's clauses. -/
def csN (f : Fo) : List (List Int) := (tseN f).2.2 ++ [[(tseN f).1]]
theorem csN_ok {f : Fo} (hw : WfF f) (hsz : szF f ≤ 1000) : (∀ c ∈ csN f, c.length ≤ 3 ∧ ∀ x ∈ c, x.natAbs ≤ (tseN f).2.1) ∧ (ats (eqF f)).length ≤ (tseN f).2.1 ∧ (tseN f).2.1 ≤ 1000 ∧ (csN f).length ≤ 4002 := by
  have hm : ∀ p ∈ eqF f, 1 ≤ numP (ats (eqF f)) p ∧ numP (ats (eqF f)) p ≤ (ats (eqF f)).length := fun p hp => by
    have : p ∈ ats (eqF f) := by rw [mem_ats]; exact hp
    exact ⟨by unfold numP; rw [if_pos this]; omega, numP_le _ p⟩
  obtain ⟨news, T⟩ := Cn.tse_told (numP (ats (eqF f))) hw ((ats (eqF f)).length, []) hm
  obtain ⟨c1, c2⟩ := Cn.tse_count (numP (ats (eqF f))) hw ((ats (eqF f)).length, [])
  have ht := Cn.cnt_told hw
  have hc := cnt_le hw
  have hs := tse_few (numP (ats (eqF f))) hw ((ats (eqF f)).length, []) (by simp)
  have hal := ats_len (eqF f)
  change Cn.Told _ _ _ (tseN f).1 (tseN f).2 _ at T
  change (tseN f).2.1 = _ at c1
  change (tseN f).2.2.length = _ at c2
  change ∀ c ∈ (tseN f).2.2, _ at hs
  have hcl : (tseN f).2.2 = news := by rw [T.cls]; rfl
  simp only [List.length_nil, Nat.zero_add] at c1 c2
  unfold csN
  refine ⟨fun c hc => ?_, by omega, by omega, by simp; omega⟩
  rcases List.mem_append.1 hc with hc | hc
  · refine ⟨hs c hc, fun x hx => ?_⟩
    rw [hcl] at hc
    exact (T.all c hc x hx).2
  · simp at hc
    subst hc
    refine ⟨by simp, fun x hx => ?_⟩
    simp at hx
    subst hx
    exact T.le.2
/-- The names, while the atoms are gone through. -/
def nmA (P : Pb) (am : List Pr) (n i : Nat) : List Nat := 0 :: ((Pb.names (am.take i) P).1 ++ List.replicate (n - i) 0)
theorem nmA_len (P : Pb) (am : List Pr) {n i : Nat} (hi : i ≤ am.length) (hn : i ≤ n) : (nmA P am n i).length = n + 1 := by
  unfold nmA
  rw [List.length_cons, List.length_append, names_len, List.length_take, List.length_replicate]
  omega
theorem nmA_succ (P : Pb) (am : List Pr) {n i : Nat} {a : Pr} (ha : am[i]? = some a) (hn : i < n) : (nmA P am n i).set (i + 1) ((Pb.names (am.take i) P).2.vari a).1 = nmA P am n (i + 1) ∧ (Pb.names (am.take (i + 1)) P).2 = ((Pb.names (am.take i) P).2.vari a).2 := by
  have hil := (List.getElem?_eq_some_iff.1 ha).1
  have e : am.take (i + 1) = am.take i ++ [a] := by rw [List.take_add_one, ha]; rfl
  have hl : (Pb.names (am.take i) P).1.length = i := by rw [names_len, List.length_take]; omega
  unfold nmA
  rw [e, names_snoc]
  refine ⟨?_, rfl⟩
  rw [List.set_cons_succ, List.set_append_right _ _ (by omega), hl, Nat.sub_self, show n - i = (n - (i + 1)) + 1 by omega, List.replicate_succ, List.set_cons_zero, List.append_assoc]
  rfl
/-- .. and the others. -/
def nmB (P : Pb) (am : List Pr) (n j : Nat) : List Nat := 0 :: ((Pb.names am P).1 ++ ((List.range j).map (fun i => (Pb.names am P).2.count + 1 + i) ++ List.replicate (n - am.length - j) 0))
theorem nmB_start (P : Pb) (am : List Pr) (n : Nat) : nmA P am n am.length = nmB P am n 0 := by
  unfold nmA nmB
  rw [List.take_length]
  rfl
theorem nmB_succ (P : Pb) (am : List Pr) {n j : Nat} (hn : am.length + j < n) : (nmB P am n j).set (am.length + 1 + j) ((Pb.names am P).2.count + 1 + j) = nmB P am n (j + 1) := by
  unfold nmB
  rw [show am.length + 1 + j = (am.length + j) + 1 by omega, List.set_cons_succ, List.set_append_right _ _ (by rw [names_len]; omega), names_len, Nat.add_sub_cancel_left, List.set_append_right _ _ (by simp), List.length_map, List.length_range, Nat.sub_self, show n - am.length - j = (n - am.length - (j + 1)) + 1 by omega, List.replicate_succ, List.set_cons_zero, List.range_succ, List.map_append, List.append_assoc]
  rfl
theorem nmB_len (P : Pb) (am : List Pr) {n j : Nat} (hn : am.length + j ≤ n) : (nmB P am n j).length = n + 1 := by
  unfold nmB
  simp only [List.length_cons, List.length_append, List.length_map, List.length_range, List.length_replicate, names_len]
  omega
theorem nmB_fin (P : Pb) (f : Fo) : nmB P (atsN f) (tseN f).2.1 ((tseN f).2.1 - (atsN f).length) = nmsN P f := by
  unfold nmB nmsN
  rw [Nat.sub_self]
  simp
theorem nmsN_small {P : Pb} (h : VqP P) (f : Fo) (hc : P.count ≤ 100000) (hn : (tseN f).2.1 ≤ 1000) (ha : (atsN f).length ≤ 1000) : ∀ x ∈ nmsN P f, x ≤ 1048576 := by
  obtain ⟨b1, b2, b3, b4, b5, b6⟩ := names_small (atsN f) P h
  intro x hx
  unfold nmsN at hx
  rcases List.mem_cons.1 hx with rfl | hx
  · omega
  · rcases List.mem_append.1 hx with hx | hx
    · have := b2 x hx
      omega
    · obtain ⟨i, hi, rfl⟩ := List.mem_map.1 hx
      have := List.mem_range.1 hi
      omega
end Go.Proofs.YtlehlgipbhfioaaGreat

namespace Go.Proofs.YtlehlgipbhfioaaGreat
open Go.RowKit Go.Maps

def boxQ (op x y : Int) (kv : Value) : Nat → Value := fun j => if j = 0 then .int .i64 op else if j = 1 then .int .i64 x else if j = 2 then .int .i64 y else kv
/-- What add has made ahead of its loops: the Form's box, the clauses, the atoms' pairs. -/
structure AdF (B nb : Nat) (W : World) (op x y : Int) (kv cv : Value) (rs : List Value) (cs : List (List Int)) (u : Value) (ps : List (Int × Int)) : Prop where
  box : W.rowIs B 36 4 (boxQ op x y kv)
  row : W.ownsRow B 39 1 cv rs.length rs
  dst : rs.length = cs.length ∧ RsDst rs
  cls : ∀ (i : Nat) (c : List Int), cs[i]? = some c → ∃ g cap, rs[i]? = some (.slice (some ⟨g, 0, none⟩) c.length cap) ∧ B ≤ g ∧ g ≠ nb ∧ Rw W g c
  pr : W.ownsRow B 34 2 u ps.length (pairC ps)
theorem AdF.keep {B nb : Nat} {W W' : World} {op x y : Int} {kv cv : Value} {rs : List Value} {cs : List (List Int)} {u : Value} {ps : List (Int × Int)} (h : AdF B nb W op x y kv cv rs cs u ps) {nm : List Int} (hr : Rw W nb nm) (hk : ∀ k, B ≤ k → k < W.heap.size → k ≠ nb → W'.heap[k]? = W.heap[k]?) : AdF B nb W' op x y kv cv rs cs u ps := by
  refine ⟨h.box.of_block (hk B (Nat.le_refl _) h.box.lt (hr.nerow h.box (by decide)).symm), ownsRow_blk h.row (fun b hb => hk b (ownsRow_lt h.row hb).1 (ownsRow_lt h.row hb).2 (fun e => hr.neown h.row (by decide) (e ▸ hb))), h.dst, fun i c hi => ?_, ownsRow_blk h.pr (fun b hb => hk b (ownsRow_lt h.pr hb).1 (ownsRow_lt h.pr hb).2 (fun e => hr.neown h.pr (by decide) (e ▸ hb)))⟩
  obtain ⟨g, cap, q1, q2, q3, q4⟩ := h.cls i c hi
  exact ⟨g, cap, q1, q2, q3, q4.block (hk g q2 q4.lt q3)⟩
/-- add, when its clauses are renamed. -/
structure Ae (w : World) (S' : Nat → Prop) (W : World) (pb vb kb : Nat) (bk tv fv lv lv' : Value) (P : Pb) (nb : Nat) (nm : List Nat) (v : Value) (am : List Pr) (cv : Value) (rs : List Value) (cs : List (List Int)) (op x y : Int) (kv : Value) : Prop where
  pm : Pm S' W pb vb kb bk tv fv lv' P
  sep : ∀ (i g n c : Nat), rs[i]? = some (.slice (some ⟨g, 0, none⟩) n c) → ¬ S' g
  lvc : ∀ k, cv.ownBlock = some k → lv'.ownBlock ≠ some k
  kept : Kept (PD pb vb kb lv) w W
  nms : RowN W nb nm
  ats : W.ownsRow w.heap.size 34 2 v am.length (rowP am)
  box : W.rowIs w.heap.size 36 4 (boxQ op x y kv)
  row : W.ownsRow w.heap.size 39 1 cv rs.length rs
  dst : rs.length = cs.length ∧ RsDst rs
  cls : ∀ (i : Nat) (c : List Int), cs[i]? = some c → ∃ g cap, rs[i]? = some (.slice (some ⟨g, 0, none⟩) c.length cap) ∧ w.heap.size ≤ g ∧ g ≠ nb ∧ Rw W g c
theorem Ae.below {w : World} {S' : Nat → Prop} {W W' : World} {pb vb kb : Nat} {bk tv fv lv lv' : Value} {P : Pb} {nb : Nat} {nm : List Nat} {v : Value} {am : List Pr} {cv : Value} {rs : List Value} {cs : List (List Int)} {op x y : Int} {kv : Value} (h : Ae w S' W pb vb kb bk tv fv lv lv' P nb nm v am cv rs cs op x y kv) (hB : Below W.heap.size W W') : Ae w S' W' pb vb kb bk tv fv lv lv' P nb nm v am cv rs cs op x y kv := by
  refine ⟨h.pm.below hB, h.sep, h.lvc, h.kept.under hB, (hB.block nb (Array.getElem?_eq_some_iff.1 h.nms).1).trans h.nms, ownsRow_below h.ats hB, h.box.of_block (hB.block _ h.box.lt), ownsRow_below h.row hB, h.dst, fun i c hi => ?_⟩
  obtain ⟨g, cap, q1, q2, q3, q4⟩ := h.cls i c hi
  exact ⟨g, cap, q1, q2, q3, q4.block (hB.block g q4.lt)⟩
theorem Ae.ren {w : World} {S' : Nat → Prop} {W W' : World} {pb vb kb : Nat} {bk tv fv lv lv' : Value} {P : Pb} {nb : Nat} {nm : List Nat} {v : Value} {am : List Pr} {cv : Value} {rs : List Value} {cs : List (List Int)} {op x y : Int} {kv : Value} (h : Ae w S' W pb vb kb bk tv fv lv lv' P nb nm v am cv rs cs op x y kv)
    {i g cap : Nat} {c c' : List Int} (hi : cs[i]? = some c) (hg : rs[i]? = some (.slice (some ⟨g, 0, none⟩) c.length cap)) (hl : c'.length = c.length) (K : Kept (fun k => k = g) W W') (hr : Rw W' g c') : Ae w S' W' pb vb kb bk tv fv lv lv' P nb nm v am cv rs (cs.set i c') op x y kv := by
  obtain ⟨g2, cap2, q1, q2, q3, q4⟩ := h.cls i c hi
  rw [hg] at q1
  cases q1
  have hbk : ∀ k, PD pb vb kb lv' k → W'.heap[k]? = W.heap[k]? := fun k hk => K.block k (h.pm.pdlt hk) (fun e => Rw.pdne h.pm q4 (e ▸ hk))
  refine ⟨h.pm.keep K.size (hbk _ (Or.inl rfl)) (hbk _ (Or.inr (Or.inl rfl))) (hbk _ (Or.inr (Or.inr (Or.inl rfl)))) (fun b hb => hbk b (Or.inr (Or.inr (Or.inr hb)))) (fun g' c hg' hc => K.block g' hc.lt (fun e => h.sep i _ _ _ hg (e ▸ hg'))), h.sep, h.lvc, h.kept.far K (fun k hk => Or.inr (by rw [hk]; exact q2)), (K.block nb (Array.getElem?_eq_some_iff.1 h.nms).1 (fun e => q3 e.symm)).trans h.nms, ownsRow_blk h.ats (fun b hb => K.block b (ownsRow_lt h.ats hb).2 (fun e => q4.neown h.ats (by decide) (e ▸ hb))), h.box.of_block (K.block _ h.box.lt (fun e => q4.nerow h.box (by decide) e.symm)), ownsRow_blk h.row (fun b hb => K.block b (ownsRow_lt h.row hb).2 (fun e => q4.neown h.row (by decide) (e ▸ hb))), ⟨by rw [List.length_set]; exact h.dst.1, h.dst.2⟩, fun j d hj => ?_⟩
  by_cases hji : i = j
  · subst hji
    rw [List.getElem?_set_self (List.getElem?_eq_some_iff.1 hi).1] at hj
    cases hj
    exact ⟨g, cap, by rw [hl]; exact hg, q2, q3, hr⟩
  · rw [List.getElem?_set_ne hji] at hj
    obtain ⟨g3, cap3, r1, r2, r3, r4⟩ := h.cls j d hj
    exact ⟨g3, cap3, r1, r2, r3, r4.block (K.block g3 r4.lt (fun e => hji (h.dst.2 i j g _ _ _ _ hg (e ▸ r1))))⟩
theorem Np.push {Φ : World → Prop} {B : Nat} {S S' : Nat → Prop} {w W W1 w8 : World} {pb vb kb : Nat} {bk tv fv lv lv' v8 : Value} {P P' : Pb} {N : Nat} {fs : List Fm} {gs : List Sx} (h : Np Φ B S w pb vb kb bk tv fv lv P N fs gs) (hBw : B ≤ w.heap.size) {op x y : Int} {ka : Option Addr} {kn kc : Nat} {f : Fo} (hv : Stab (Dq pb vb kb lv fv) w fun W => FIs W (.agg #[.int .i64 op, .int .i64 x, .int .i64 y, .slice ka kn kc]) f) (hsz : szF f ≤ 1048576) (hRF : RF f)
    {nb : Nat} {nm : List Nat} {v : Value} {am : List Pr} {ca : Option Addr} {cc : Nat} {rs : List Value} {cs : List (List Int)} (e : Ae w S' W pb vb kb bk tv fv lv lv' P' nb nm v am (.slice ca cs.length cc) rs cs op x y (.slice ka kn kc)) (hat : lv'.ownBlock = lv.ownBlock ∨ ∀ k, lv'.ownBlock = some k → w.heap.size ≤ k)
    (hB1 : Below W.heap.size W W1) (hown : w8.ownsRow B 172 6 v8 (gs.length + 1) (gs.flatMap sxL ++ sxL ⟨op, x, y, ka, kn, kc, v, .slice ca cs.length cc⟩)) (hgrow : W1.grownBy w8 fv.ownBlock) (hat8 : v8.ownBlock = fv.ownBlock ∨ ∀ k, v8.ownBlock = some k → W1.heap.size ≤ k) :
    w8.cell? ⟨pb, 2, none⟩ = some fv ∧ w8.frozen? ⟨pb, 2, none⟩ = false ∧ Np Φ B S' (w8.setCell ⟨pb, 2, none⟩ v8) pb vb kb bk tv v8 lv' P' N (fs ++ [⟨am, cs, fun e => evE N e f⟩]) (gs ++ [⟨op, x, y, ka, kn, kc, v, .slice ca cs.length cc⟩]) := by
  have e1 := e.below hB1
  have hfv1 : W1.ownsRow B 172 6 fv gs.length (gs.flatMap sxL) := ownsRow_below (ownsRow_blk h.row (fun b hb => e.kept.block b (ownsRow_lt h.row hb).2 (h.pm.pdne h.row (by decide) (by decide) hb))) hB1
  have nb8 : ∀ k, k < W1.heap.size → fv.ownBlock ≠ some k → w8.heap[k]? = W1.heap[k]? := fun k hk hne => hgrow.block k hk (fun e => hne e.symm)
  have hp : fv.ownBlock ≠ some pb := rowIs_type e1.pm.cells (by decide) hfv1
  have c8 : w8.rowIs pb 118 7 (pmC bk tv fv vb P'.count lv' kb) := e1.pm.cells.of_block (nb8 _ e1.pm.cells.lt hp)
  have hp8 : v8.ownBlock ≠ some pb := rowIs_type c8 (by decide) hown
  have K9 : Kept (fun k => k = pb) w8 (w8.setCell ⟨pb, 2, none⟩ v8) := Kept.setCell (S := fun k => k = pb) (Kept.refl _ w8) (p := ⟨pb, 2, none⟩) rfl v8
  refine ⟨c8.cell (i := 2) (by omega), c8.frozen 2, ?_⟩
  have hw9 : (w8.setCell ⟨pb, 2, none⟩ v8).rowIs pb 118 7 (pmC bk tv v8 vb P'.count lv' kb) := (c8.set 2 v8).congr (fun j hj => by
    unfold pmC
    by_cases e : j = 2
    · subst e; simp
    · rw [if_neg e]
      have : j = 0 ∨ j = 1 ∨ j = 3 ∨ j = 4 ∨ j = 5 ∨ j = 6 := by omega
      rcases this with rfl | rfl | rfl | rfl | rfl | rfl <;> rfl)
  generalize w8.setCell ⟨pb, 2, none⟩ v8 = w9 at *
  have z19 : W1.heap.size ≤ w9.heap.size := Nat.le_trans hgrow.size K9.size
  have nb9 : ∀ k, k < W1.heap.size → fv.ownBlock ≠ some k → k ≠ pb → w9.heap[k]? = W1.heap[k]? := fun k hk hne hn => (K9.block k (Nat.lt_of_lt_of_le hk hgrow.size) hn).trans (nb8 k hk hne)
  have own9 : ∀ {base size n : Nat} {t : TypeId} {u : Value} {xs : List Value}, W1.ownsRow base t size u n xs → 118 ≠ t → t ≠ 172 → w9.ownsRow base t size u n xs := fun {base size n t u xs} hr h1 h2 => ownsRow_blk hr (fun b hb => nb9 b (ownsRow_lt hr hb).2 (ownsRow_neC hr hfv1 h2 hb) (fun e => rowIs_type e1.pm.cells h1 hr (e ▸ hb)))
  have rw9 : ∀ {g : Nat} {c : List Int}, Rw W1 g c → Rw w9 g c := fun {g c} hr => hr.block (nb9 g hr.lt (hr.neown hfv1 (by decide)) (hr.nerow e1.pm.cells (by decide)))
  have pm9 : Pm S' w9 pb vb kb bk tv v8 lv' P' := by
    obtain ⟨es, ck, m1⟩ := e1.pm.vars.lt
    obtain ⟨es', ck', m2⟩ := e1.pm.known.lt
    obtain ⟨ls, r1, r2, r3⟩ := e1.pm.rows
    refine ⟨hw9, e1.pm.vars.keep (nb9 vb (Array.getElem?_eq_some_iff.1 m1).1 (down_map hfv1 m1) (drow_map e1.pm.cells m1)), e1.pm.known.keep (nb9 kb (Array.getElem?_eq_some_iff.1 m2).1 (down_map hfv1 m2) (drow_map e1.pm.cells m2)), e1.pm.vk, fun k hk => Nat.lt_of_lt_of_le (e1.pm.lt k hk) z19, ls, own9 r1 (by decide) (by decide), r2, fun i c hi => ?_⟩
    obtain ⟨g, cap, q1, q0, q2⟩ := r3 i c hi
    exact ⟨g, cap, q1, q0, rw9 q2⟩
  have row9 : w9.ownsRow B 172 6 v8 (gs.length + 1) (gs.flatMap sxL ++ sxL ⟨op, x, y, ka, kn, kc, v, .slice ca cs.length cc⟩) := ownsRow_blk hown (fun b hb => K9.block b (ownsRow_lt hown hb).2 (fun e => hp8 (e ▸ hb)))
  have KQ : Kept (Dq pb vb kb lv fv) w w9 := ((e.kept.mono (T := Dq pb vb kb lv fv) (fun k _ e => Or.inl e)).under hB1).far (Kept.far (D := Dq pb vb kb lv fv) (Kept.grown (Kept.refl _ W1) hgrow (fun k e => Or.inr e)) K9 (fun k hk => Or.inl (Or.inl (Or.inl hk)))) (fun k hk => Or.inl hk)
  have hDq : ∀ k, Dq pb vb kb lv' v8 k → Dq pb vb kb lv fv k ∨ w.heap.size ≤ k := by
    rintro k ((e2 | e2 | e2 | e2) | e2)
    · exact Or.inl (Or.inl (Or.inl e2))
    · exact Or.inl (Or.inl (Or.inr (Or.inl e2)))
    · exact Or.inl (Or.inl (Or.inr (Or.inr (Or.inl e2))))
    · rcases hat with a | a
      · exact Or.inl (Or.inl (Or.inr (Or.inr (Or.inr (a ▸ e2)))))
      · exact Or.inr (a k e2)
    · rcases hat8 with a | a
      · exact Or.inl (Or.inr (a ▸ e2))
      · exact Or.inr (Nat.le_trans (Nat.le_trans e.kept.size hB1.size) (a k e2))
  refine ⟨pm9, fun k hk => (hDq k hk).elim (h.low k) (fun e => Nat.le_trans hBw e), by rw [List.flatMap_append, List.length_append]; simpa using row9, by simp [h.len], fun W' K' => ?_⟩
  have KW : Kept (Dq pb vb kb lv fv) w W' := KQ.far K' hDq
  obtain ⟨o1, o2⟩ := h.parts W' KW
  refine ⟨fun n fm g hn hg => ?_, o2⟩
  by_cases hnl : n < fs.length
  · rw [List.getElem?_append_left hnl] at hn
    rw [List.getElem?_append_left (by rw [h.len]; exact hnl)] at hg
    exact o1 n fm g hn hg
  · rw [List.getElem?_append_right (by omega)] at hn
    rw [List.getElem?_append_right (by rw [h.len]; omega), h.len] at hg
    have hn0 : n - fs.length = 0 := by
      have := (List.getElem?_eq_some_iff.1 hn).1
      simp at this
      omega
    rw [hn0] at hn hg
    cases hn
    cases hg
    have ats9 := own9 e1.ats (by decide) (by decide)
    have row9c := own9 e1.row (by decide) (by decide)
    have ne8 : ∀ {base size n : Nat} {t : TypeId} {u : Value} {xs : List Value}, w9.ownsRow base t size u n xs → t ≠ 172 → ∀ k, u.ownBlock = some k → v8.ownBlock ≠ some k := fun hr ht k hk => ownsRow_neC hr row9 ht hk
    have own' : ∀ {base size n : Nat} {t : TypeId} {u : Value} {xs : List Value}, w9.ownsRow base t size u n xs → t ≠ 172 → (∀ k, u.ownBlock = some k → ¬ PD pb vb kb lv' k) → W'.ownsRow base t size u n xs := fun hr ht hd => ownsRow_blk hr (fun b hb => K'.block b (ownsRow_lt hr hb).2 (fun e => e.elim (hd b hb) (ne8 hr ht b hb)))
    refine ⟨f, hv W' KW, ⟨hsz, hRF⟩, fun _ => rfl, PsAt.of_row (own' ats9 (by decide) (fun k hk => pm9.pdne ats9 (by decide) (by decide) hk)), ca, cc, rfl, ?_⟩
    have rowW : W'.ownsRow w.heap.size 39 1 (.slice ca cs.length cc) rs.length rs := own' row9c (by decide) (fun k hk => by
      obtain ⟨es, ck, m1⟩ := pm9.vars.lt
      obtain ⟨es', ck', m2⟩ := pm9.known.lt
      rintro (e2 | e2 | e2 | e2)
      · exact rowIs_type pm9.cells (by decide) row9c (e2 ▸ hk)
      · exact down_map row9c m1 (e2 ▸ hk)
      · exact down_map row9c m2 (e2 ▸ hk)
      · exact e.lvc k hk e2)
    have rowV := rowW
    rw [e.dst.1] at rowV
    have hrl := e.dst.1
    rcases id rowW.2 with ⟨e2, h0⟩ | ⟨g, cap, cur, e2, _⟩
    · exact Or.inl (List.eq_nil_of_length_eq_zero (by rw [← e.dst.1]; exact h0))
    · injection e2 with e3 e4 e5
      subst e3
      refine Or.inr ⟨g, 0, rfl, fun i c hi => ?_⟩
      change cs[i]? = some c at hi
      obtain ⟨g2, cap2, q1, q2, q3, q4⟩ := e1.cls i c hi
      have r9 := rw9 q4
      refine ⟨_, cap2, by rw [Nat.zero_add, World.ownsRow.cellAt (n := cs.length) (size := 1) rowV i (by have := (List.getElem?_eq_some_iff.1 hi).1; omega)]; exact q1, (r9.block (K'.block g2 r9.lt (fun e3 => e3.elim (Rw.pdne pm9 r9) (r9.neown row9 (by decide))))).cls⟩
theorem cell_six (w : World) (a b c d e f : Value) (ty : TypeId) : ∀ j u, [a, b, c, d, e, f][j]? = some u → (w.alloc (.cells #[a, b, c, d, e, f] ty)).cell? ((⟨w.heap.size, 0, none⟩ : Addr).add j) = some u := by
  intro j u hj
  have hn := made_row w #[a, b, c, d, e, f] ty
  have hjl := (List.getElem?_eq_some_iff.1 hj).1
  rw [Addr.add_lit, Nat.zero_add, hn.cell (i := j) (by simpa using hjl)]
  simp only [List.getElem?_toArray, hj, Option.getD_some]
theorem infoFmD : (Tryz.prog.info? 172).map (fun i => (i.zero, i.size, i.bytes)) = some (some (.agg #[.int .i64 0, .int .i64 0, .int .i64 0, .slice none 0 0, .slice none 0 0, .slice none 0 0]), 6, 96) := by kernel_rfl
end Go.Proofs.YtlehlgipbhfioaaGreat

namespace Go.Proofs.YtlehlgipbhfioaaGreat
open Go.RowKit Go.Maps

/-- The terms so far, of a problem that is made. -/
structure Tl (w W : World) (pb vb kb : Nat) (bk tv : Value) (l : List Tm) (i : Nat) : Prop where
  pm : Pm (fun _ => False) W pb vb kb bk tv (.slice none 0 0) (.slice none 0 0) pb0
  ge : w.heap.size ≤ pb ∧ w.heap.size ≤ vb ∧ w.heap.size ≤ kb
  bel : Below w.heap.size w W
  row : ∃ xs, W.ownsRow w.heap.size 102 2 tv i xs ∧ ∀ (j : Nat) (t : Tm), j < i → l[j]? = some t → xs[j * 2]? = some (.string t.name) ∧ ∃ u, xs[j * 2 + 1]? = some u ∧ Stab (fun k => k = pb ∨ k = vb ∨ k = kb ∨ tv.ownBlock = some k) W (fun W' => NsAt W' u t.args)
theorem Tl.below {w W W' : World} {pb vb kb : Nat} {bk tv : Value} {l : List Tm} {i : Nat} (h : Tl w W pb vb kb bk tv l i) (hB : Below W.heap.size W W') : Tl w W' pb vb kb bk tv l i := by
  obtain ⟨xs, r1, r2⟩ := h.row
  refine ⟨h.pm.below hB, h.ge, h.bel.trans (hB.mono h.bel.size), xs, ownsRow_below r1 hB, fun j t hj ht => ?_⟩
  obtain ⟨q1, u, q2, q3⟩ := r2 j t hj ht
  exact ⟨q1, u, q2, q3.step ((Kept.refl _ W).under hB) (fun k e => Or.inl e)⟩
theorem Tl.push {w W W1 w8 : World} {pb vb kb : Nat} {bk tv v8 v : Value} {l : List Tm} {i : Nat} {t : Tm} (h : Tl w W pb vb kb bk tv l i) (ht : l[i]? = some t) (hB1 : Below W.heap.size W W1) {xs : List Value} (hx : W.ownsRow w.heap.size 102 2 tv i xs ∧ ∀ (j : Nat) (t : Tm), j < i → l[j]? = some t → xs[j * 2]? = some (.string t.name) ∧ ∃ u, xs[j * 2 + 1]? = some u ∧ Stab (fun k => k = pb ∨ k = vb ∨ k = kb ∨ tv.ownBlock = some k) W (fun W' => NsAt W' u t.args))
    {b0 : Nat} (ho : W1.ownsRow b0 3 1 v t.args.length (argC t.args)) (hown : w8.ownsRow w.heap.size 102 2 v8 (i + 1) (xs ++ [.string t.name, v])) (hgrow : W1.grownBy w8 tv.ownBlock) (hat8 : v8.ownBlock = tv.ownBlock ∨ ∀ k, v8.ownBlock = some k → W1.heap.size ≤ k) :
    w8.cell? ⟨pb, 1, none⟩ = some tv ∧ w8.frozen? ⟨pb, 1, none⟩ = false ∧ Tl w (w8.setCell ⟨pb, 1, none⟩ v8) pb vb kb bk v8 l (i + 1) := by
  have h1 := h.below hB1
  have htv1 := ownsRow_below hx.1 hB1
  have nb8 : ∀ k, k < W1.heap.size → tv.ownBlock ≠ some k → w8.heap[k]? = W1.heap[k]? := fun k hk hne => hgrow.block k hk (fun e => hne e.symm)
  have hp : tv.ownBlock ≠ some pb := rowIs_type h1.pm.cells (by decide) htv1
  have c8 : w8.rowIs pb 118 7 (pmC bk tv (.slice none 0 0) vb 0 (.slice none 0 0) kb) := h1.pm.cells.of_block (nb8 _ h1.pm.cells.lt hp)
  have hp8 : v8.ownBlock ≠ some pb := rowIs_type c8 (by decide) hown
  have K9 : Kept (fun k => k = pb) w8 (w8.setCell ⟨pb, 1, none⟩ v8) := Kept.setCell (S := fun k => k = pb) (Kept.refl _ w8) (p := ⟨pb, 1, none⟩) rfl v8
  refine ⟨c8.cell (i := 1) (by omega), c8.frozen 1, ?_⟩
  have hw9 : (w8.setCell ⟨pb, 1, none⟩ v8).rowIs pb 118 7 (pmC bk v8 (.slice none 0 0) vb 0 (.slice none 0 0) kb) := (c8.set 1 v8).congr (fun j hj => by
    unfold pmC
    by_cases e : j = 1
    · subst e; simp
    · rw [if_neg e]
      have : j = 0 ∨ j = 2 ∨ j = 3 ∨ j = 4 ∨ j = 5 ∨ j = 6 := by omega
      rcases this with rfl | rfl | rfl | rfl | rfl | rfl <;> rfl)
  generalize w8.setCell ⟨pb, 1, none⟩ v8 = w9 at *
  have z19 : W1.heap.size ≤ w9.heap.size := Nat.le_trans hgrow.size K9.size
  have nb9 : ∀ k, k < W1.heap.size → tv.ownBlock ≠ some k → k ≠ pb → w9.heap[k]? = W1.heap[k]? := fun k hk hne hn => (K9.block k (Nat.lt_of_lt_of_le hk hgrow.size) hn).trans (nb8 k hk hne)
  have pm9 : Pm (fun _ => False) w9 pb vb kb bk v8 (.slice none 0 0) (.slice none 0 0) pb0 := by
    obtain ⟨es, ck, m1⟩ := h1.pm.vars.lt
    obtain ⟨es', ck', m2⟩ := h1.pm.known.lt
    obtain ⟨ls, r1, r2, r3⟩ := h1.pm.rows
    refine ⟨hw9, h1.pm.vars.keep (nb9 vb (Array.getElem?_eq_some_iff.1 m1).1 (down_map htv1 m1) (drow_map h1.pm.cells m1)), h1.pm.known.keep (nb9 kb (Array.getElem?_eq_some_iff.1 m2).1 (down_map htv1 m2) (drow_map h1.pm.cells m2)), h1.pm.vk, fun k hk => hk.elim, ls, ownsRow_blk r1 (fun b hb => by cases hb), r2, fun i c hi => by simp [pb0] at hi⟩
  have row9 : w9.ownsRow w.heap.size 102 2 v8 (i + 1) (xs ++ [.string t.name, v]) := ownsRow_blk hown (fun b hb => K9.block b (ownsRow_lt hown hb).2 (fun e => hp8 (e ▸ hb)))
  have KQ : Kept (fun k => k = pb ∨ k = vb ∨ k = kb ∨ tv.ownBlock = some k) W w9 := ((Kept.refl (fun k => k = pb ∨ k = vb ∨ k = kb ∨ tv.ownBlock = some k) W).under hB1).far (Kept.far (D := fun k => k = pb ∨ k = vb ∨ k = kb ∨ tv.ownBlock = some k) (Kept.grown (Kept.refl _ W1) hgrow (fun k e => Or.inr (Or.inr (Or.inr e)))) K9 (fun k hk => Or.inl (Or.inl hk))) (fun k hk => Or.inl hk)
  have hD : ∀ k, (k = pb ∨ k = vb ∨ k = kb ∨ v8.ownBlock = some k) → (k = pb ∨ k = vb ∨ k = kb ∨ tv.ownBlock = some k) ∨ W.heap.size ≤ k := by
    rintro k (e | e | e | e)
    · exact Or.inl (Or.inl e)
    · exact Or.inl (Or.inr (Or.inl e))
    · exact Or.inl (Or.inr (Or.inr (Or.inl e)))
    · rcases hat8 with a | a
      · exact Or.inl (Or.inr (Or.inr (Or.inr (a ▸ e))))
      · exact Or.inr (Nat.le_trans hB1.size (a k e))
  have hlen := hx.1.1
  have bel9 : Below w.heap.size w w9 := h.bel.trans (KQ.below h.bel.size (fun k hk => by
    rcases hk with e | e | e | e
    · rw [e]; exact h.ge.1
    · rw [e]; exact h.ge.2.1
    · rw [e]; exact h.ge.2.2
    · exact (ownsRow_lt hx.1 e).1))
  refine ⟨pm9, h.ge, bel9, _, row9, fun j t' hj ht' => ?_⟩
  by_cases hji : j < i
  · obtain ⟨q1, u, q2, q3⟩ := hx.2 j t' hji ht'
    exact ⟨by rw [List.getElem?_append_left (by omega)]; exact q1, u, by rw [List.getElem?_append_left (by omega)]; exact q2, q3.step KQ hD⟩
  · obtain rfl : j = i := by omega
    rw [ht] at ht'
    cases ht'
    refine ⟨by rw [List.getElem?_append_right (by omega), hlen, Nat.sub_self]; rfl, v, by rw [List.getElem?_append_right (by omega), hlen, Nat.add_sub_cancel_left]; rfl, fun W' K' => ?_⟩
    have o9 : w9.ownsRow b0 3 1 v t.args.length (argC t.args) := ownsRow_blk ho (fun b hb => nb9 b (ownsRow_lt ho hb).2 (ownsRow_neC ho htv1 (by decide) hb) (fun e => rowIs_type h1.pm.cells (by decide) ho (e ▸ hb)))
    obtain ⟨es, ck, m1⟩ := pm9.vars.lt
    obtain ⟨es', ck', m2⟩ := pm9.known.lt
    refine NsAt.of_rowI (base := b0) (ownsRow_blk o9 (fun b hb => K'.block b (ownsRow_lt o9 hb).2 ?_))
    rintro (e | e | e | e)
    · exact rowIs_type pm9.cells (by decide) o9 (e ▸ hb)
    · exact down_map o9 m1 (e ▸ hb)
    · exact down_map o9 m2 (e ▸ hb)
    · exact ownsRow_neC o9 row9 (by decide) hb e
/-- All terms are there. -/
theorem Tl.np {w W : World} {pb vb kb : Nat} {bk tv : Value} {l : List Tm} (h : Tl w W pb vb kb bk tv l l.length) : ∃ ta tc, tv = .slice ta l.length tc ∧ Np (fun W => Below w.heap.size w W ∧ TsAt W (.slice ta l.length tc) l) w.heap.size (fun _ => False) W pb vb kb bk (.slice ta l.length tc) (.slice none 0 0) (.slice none 0 0) pb0 l.length [] [] := by
  obtain ⟨xs, r1, r2⟩ := h.row
  obtain ⟨ta, tc, rfl⟩ := ownsRow_form r1
  refine ⟨ta, tc, rfl, h.pm, ?_, ⟨rfl, Or.inl ⟨rfl, rfl⟩⟩, rfl, fun W' K => ⟨fun n fm g hn => by simp at hn, ?_, ?_⟩⟩
  · rintro k ((e | e | e | e) | e)
    · rw [e]; exact h.ge.1
    · rw [e]; exact h.ge.2.1
    · rw [e]; exact h.ge.2.2
    · cases e
    · cases e
  · refine h.bel.trans (K.below h.bel.size ?_)
    rintro k ((e | e | e | e) | e)
    · rw [e]; exact h.ge.1
    · rw [e]; exact h.ge.2.1
    · rw [e]; exact h.ge.2.2
    · cases e
    · cases e
  · have rW : W'.ownsRow w.heap.size 102 2 (.slice ta l.length tc) l.length xs := ownsRow_blk r1 (fun b hb => K.block b (ownsRow_lt r1 hb).2 (fun e => e.elim (h.pm.pdne r1 (by decide) (by decide) hb) (fun e => by cases e)))
    refine ⟨ta, tc, rfl, ?_⟩
    rcases id rW.2 with ⟨e2, h0⟩ | ⟨g, cap, cur, e2, _⟩
    · exact Or.inl (List.eq_nil_of_length_eq_zero h0)
    · cases e2
      have hlen := rW.1
      refine Or.inr ⟨g, 0, rfl, fun j t ht => ?_⟩
      have hj := (List.getElem?_eq_some_iff.1 ht).1
      obtain ⟨q1, u, q2, q3⟩ := r2 j t hj ht
      refine ⟨by rw [Nat.zero_add, rW.cellAt (j * 2) (by omega)]; exact q1, u, by rw [Nat.zero_add, rW.cellAt (j * 2 + 1) (by omega)]; exact q2, q3 W' (K.mono (fun k _ e => ?_))⟩
      rcases e with (e | e | e | e) | e
      · exact Or.inl e
      · exact Or.inr (Or.inl e)
      · exact Or.inr (Or.inr (Or.inl e))
      · cases e
      · cases e
/-- Forms in memory. -/
def FsM (W : World) (pa : Option Addr) (fos : List Fo) : Prop := ∀ (i : Nat) (f : Fo), fos[i]? = some f → ∃ (b off : Nat) (op x y : Int) (ka : Option Addr) (kn kc : Nat), pa = some ⟨b, off, none⟩ ∧ (W.cell? ⟨b, off + i * 4, none⟩ = some (.int .i64 op) ∧ W.cell? ⟨b, off + i * 4 + 1, none⟩ = some (.int .i64 x) ∧ W.cell? ⟨b, off + i * 4 + 2, none⟩ = some (.int .i64 y) ∧ W.cell? ⟨b, off + i * 4 + 3, none⟩ = some (.slice ka kn kc)) ∧ FIs W (.agg #[.int .i64 op, .int .i64 x, .int .i64 y, .slice ka kn kc]) f
theorem adds_len (n : Nat) : ∀ (r : List Fo) (P : Pb) (fs : List Fm), (Pb.adds n r P fs).2.length = fs.length + r.length
  | [], _, _ => rfl
  | f :: r, P, fs => by
    rw [Pb.adds, adds_len n r, List.length_append]
    simp only [List.length_cons, List.length_nil]
    omega
/-- What newProblem asks of the formulas. -/
structure FosOk (N : Nat) (fos : List Fo) : Prop where
  each : ∀ f ∈ fos, WfF f ∧ szF f ≤ 1000 ∧ RF f ∧ ∀ p ∈ ats (eqF f), (0 ≤ p.1 ∧ p.1 ≤ 1000000) ∧ 0 ≤ p.2 ∧ p.2 ≤ 1000000
  few : fos.length ≤ 1000
  small : ∀ i, i ≤ fos.length → VqP (Pb.adds N (fos.take i) pb0 []).1 ∧ (Pb.adds N (fos.take i) pb0 []).1.lemmas.length ≤ 1000000 ∧ (Pb.adds N (fos.take i) pb0 []).1.count ≤ 100000 ∧ (Pb.adds N (fos.take i) pb0 []).1.vars.length ≤ 100000
def NewPost (w : World) (p : Nat) (l : List Tm) (fos : List Fo) (e : Ending) (w' : World) : Prop :=
  ∃ pb vb kb ta tc fv lv S gs, e = .returned (.pointer (some ⟨pb, 0, none⟩)) ∧ Np (fun W => Below w.heap.size w W ∧ TsAt W (.slice ta l.length tc) l) w.heap.size S w' pb vb kb (.pointer (some ⟨p, 0, none⟩)) (.slice ta l.length tc) fv lv (Pb.adds l.length fos pb0 []).1 l.length (Pb.adds l.length fos pb0 []).2 gs
end Go.Proofs.YtlehlgipbhfioaaGreat

namespace Go.Proofs.YtlehlgipbhfioaaGreat
open Go.RowKit Go.Maps

/-- Solve, of clauses that it takes. -/
def SolveOk : Prop := ∀ (w : World) (n : Nat), n ≤ 2000 → ∀ (ca : Option Addr) (css : List (List Int)) (cc : Nat), CssAt w ca css → css.length ≤ 100000000 → (∀ c ∈ css, ClOk n c) → ∀ (r : Option (List Bool)), solveN n css = some r → Calls Tryz.prog 44 #[.int .i64 (n : Int), .slice ca css.length cc] w (SolvePost w n r)

/-- Variables are numbers from 1 on. -/
def VrP (P : Pb) : Prop := ∀ e ∈ P.vars, 1 ≤ e.2 ∧ e.2 ≤ P.count
theorem VrP.s {P : Pb} (h : VrP P) : VrS P := fun e he => (h e he).2
theorem VrP.num {P : Pb} (h : VrP P) {a : Pr} {x : Nat} (hx : numV P.vars a = some x) : 1 ≤ x ∧ x ≤ P.count := by
  unfold numV at hx
  cases hf : P.vars.find? fun e => decide (e.1 = a) with
  | none => rw [hf] at hx; cases hx
  | some e =>
    rw [hf] at hx
    cases hx
    exact h e (List.mem_of_find?_eq_some hf)
theorem VrP.vari {P : Pb} (h : VrP P) (a : Pr) : VrP (P.vari a).2 := by
  unfold Pb.vari
  cases hn : P.num a with
  | some x => exact h
  | none =>
    intro e he
    rcases List.mem_append.1 he with he | he
    · exact ⟨(h e he).1, Nat.le_succ_of_le (h e he).2⟩
    · simp at he
      subst he
      exact ⟨Nat.le_add_left _ _, Nat.le_refl _⟩
theorem VrP.prem : ∀ (r : List Pr) (P : Pb), VrP P → VrP (Pb.prem r P).2
  | [], _, h => h
  | a :: r, P, h => by
    rw [Pb.prem]
    split
    · exact VrP.prem r P h
    · exact VrP.prem r _ (h.vari a)
theorem VrP.step {P : Pb} (h : VrP P) (st : Stq) : VrP (P.step st) := by
  unfold Pb.step
  split
  · exact h
  · have h0 : VrP { P with known := P.known ++ [(st.1, pad4 st.2)] } := h
    exact VrP.prem (pad4 st.2) _ (h0.vari st.1)
theorem VrP.steps : ∀ (S : List Stq) (P : Pb), VrP P → VrP (S.foldl Pb.step P)
  | [], _, h => h
  | st :: S, _, h => VrP.steps S _ (h.step st)
theorem VrP.names : ∀ (r : List Pr) (P : Pb), VrP P → VrP (Pb.names r P).2
  | [], _, h => h
  | a :: r, _, h => VrP.names r _ (h.vari a)
theorem step_keeps (P : Pb) (st : Stq) (b : Pr) (h : P.num b ≠ none) : (P.step st).num b ≠ none := by
  unfold Pb.step
  split
  · exact h
  · exact prem_keeps _ _ b (vari_keeps _ _ _ h)
theorem steps_keep : ∀ (S : List Stq) (P : Pb) (b : Pr), P.num b ≠ none → (S.foldl Pb.step P).num b ≠ none
  | [], _, _, h => h
  | st :: S, P, b, h => steps_keep S _ b (step_keeps P st b h)
theorem names_keep : ∀ (r : List Pr) (P : Pb) (b : Pr), P.num b ≠ none → (Pb.names r P).2.num b ≠ none
  | [], _, _, h => h
  | a :: r, P, b, h => names_keep r _ b (vari_keeps P a b h)
theorem LrnK.keeps {l : List Tm} {told : List Pr} {F : Pf} {P Q : Pb} {a : Pr} (h : LrnK l told F P a Q) (hv : VrP P) : VrP Q ∧ ∀ b, P.num b ≠ none → Q.num b ≠ none := by
  obtain ⟨S, _, h1, h2⟩ := h
  by_cases hr : P.count + (missN P S []).length ≤ 2000
  · rw [h1 hr]
    exact ⟨VrP.steps S P hv, fun b hb => steps_keep S P b hb⟩
  · obtain ⟨ns, _, rfl⟩ := h2 hr
    exact ⟨VrP.names _ _ (hv.vari a), fun b hb => names_keep _ _ b (vari_keeps P a b hb)⟩
theorem LrnR.keeps {l : List Tm} {told : List Pr} {F : Pf} : ∀ {xs : List Pr} {P Q : Pb}, LrnR l told F xs P Q → VrP P → VrP Q ∧ ∀ b, P.num b ≠ none → Q.num b ≠ none
  | [], P, Q, h, hv => by
    cases (show Q = P from h)
    exact ⟨hv, fun _ h => h⟩
  | a :: r, P, Q, ⟨P1, h1, h2⟩, hv => by
    obtain ⟨k1, k2⟩ := h1.keeps hv
    obtain ⟨k3, k4⟩ := LrnR.keeps h2 k1
    exact ⟨k3, fun b hb => k4 b (k2 b hb)⟩
/-- What model reads besides its problem. -/
structure Env (W : World) (base p : Nat) (ev : Value) (nb fb : Nat) (l : List Tm) (ta : Option Addr) (tc : Nat) (fv : Value) (fs : List Fm) (xa : Option Addr) (xc : Nat) (ns : List Nat) : Prop where
  bank : Bk W base p ev nb fb l
  terms : TsAt W (.slice ta l.length tc) l
  fms : FmsAt W l.length fv fs
  nums : NsAt W (.slice xa ns.length xc) ns
/-- What the formulas keep to. -/
structure FsOk (N : Nat) (fs : List Fm) (ns : List Nat) : Prop where
  lt : ∀ n ∈ ns, n < fs.length
  few : ns.length ≤ 1000
  am : ∀ n, n < fs.length → (Fm.get fs n).am.length ≤ 1000 ∧ ∀ a ∈ (Fm.get fs n).am, a.1 ≤ a.2 ∧ a.2 < N
  all : (ns.flatMap fun n => (Fm.get fs n).am).length ≤ 1000
/-- Each atom has a variable. -/
def HasV (fs : List Fm) (P : Pb) : Prop := ∀ n, n < fs.length → ∀ a ∈ (Fm.get fs n).am, P.num a ≠ none
theorem tolN_ok {N : Nat} {fs : List Fm} {ns : List Nat} (h : FsOk N fs ns) {P : Pb} (hv : HasV fs P) (hr : VrP P) (hc : P.count ≤ 2000) (vs : List Bool) : (tolN fs P ns vs).length ≤ 1000 ∧ (∀ q ∈ tolN fs P ns vs, q.1 ≤ q.2 ∧ q.2 < N) ∧ ∀ q ∈ tolN fs P ns vs, ∃ x, numV P.vars q = some x ∧ x ≤ 100000 := by
  have hm : ∀ q ∈ tolN fs P ns vs, ∃ n ∈ ns, q ∈ (Fm.get fs n).am := fun q hq => by
    unfold tolN at hq
    rw [toldN_mem] at hq
    rcases hq with e | ⟨e, _⟩
    · cases e
    · exact e
  refine ⟨?_, fun q hq => ?_, fun q hq => ?_⟩
  · unfold tolN
    rw [toldN_addP]
    refine Nat.le_trans (addP_len _ _) ?_
    have h1 := List.length_filter_le (fun a => valB vs ((numV P.vars a).getD 0 - 1)) (ns.flatMap fun n => (Fm.get fs n).am)
    have := h.all
    simp
    omega
  · obtain ⟨n, hn, hqa⟩ := hm q hq
    exact (h.am n (h.lt n hn)).2 q hqa
  · obtain ⟨n, hn, hqa⟩ := hm q hq
    cases hx : numV P.vars q with
    | none => exact absurd hx (hv n (h.lt n hn) q hqa)
    | some x => exact ⟨x, rfl, by have := hr.num hx; omega⟩

theorem solveN_len {n : Nat} {cs : List (List Int)} {vs : List Bool} (h : solveN n cs = some (some vs)) : vs.length = n := by
  unfold solveN at h
  split at h
  · cases h
  · cases h
  · cases h
    simp
theorem BsAt.below {W W' : World} {v : Value} {k : Nat} {val : Nat → Bool} (h : BsAt W v k val) (hB : Below W.heap.size W W') : BsAt W' v k val := by
  obtain ⟨b, off, c, e, h2⟩ := h
  exact ⟨b, off, c, e, fun n hn => (hB.cell (World.block_lt_of_cell? W _ (h2 n hn))).trans (h2 n hn)⟩
/-- What model answers. -/
def MdlAns (w : World) (l : List Tm) (r : Option (List Pr)) (e : Ending) (w' : World) : Prop :=
  (r = none → e = .returned (.tuple #[.slice none 0 0, .bool false])) ∧ ∀ told, r = some told → ∃ (cb : Nat) (g : Nat → Nat), e = .returned (.tuple #[.slice (some ⟨cb, 0, none⟩) l.length l.length, .bool true]) ∧ w.heap.size ≤ cb ∧ w'.rowIs cb 3 l.length (fun i => .int .i64 (g i : Int)) ∧ ∀ i j, i < l.length → j < l.length → decide (g i = g j) = cgN l told i j
def MdlPost (S : Nat → Prop) (w : World) (pb vb kb : Nat) (bk tv fv lv : Value) (l : List Tm) (fs : List Fm) (Post : Option (List Pr) → Pb → Prop) (e : Ending) (w' : World) : Prop :=
  ∃ r Q S' lv', Post r Q ∧ PmX S w S' w' pb vb kb bk tv fv lv lv' Q ∧ VrP Q ∧ HasV fs Q ∧ MdlAns w l r e w'

set_option maxRecDepth 100000 in
set_option maxHeartbeats 1000000 in
theorem model_in (hS : SolveOk) (S : Nat → Prop) (w : World) (pb vb kb : Nat) (fv lv : Value) (P : Pb) (base p : Nat) (ev : Value) (nb fb : Nat) (l : List Tm) (ta : Option Addr) (tc : Nat) (h : Pm S w pb vb kb (.pointer (some ⟨p, 0, none⟩)) (.slice ta l.length tc) fv lv P) (hb : Cc.Bd l) (hl : l.length ≤ 150) (fs : List Fm) (xa : Option Addr) (xc : Nat) (ns : List Nat)
    (hE : ∀ W, Kept (PD pb vb kb lv) w W → Env W base p ev nb fb l ta tc fv fs xa xc ns) (hfs : FsOk l.length fs ns) (hv : HasV fs P) (hr : VrP P) (hsm : P.lemmas.length ≤ 100000 ∧ P.vars.length ≤ 2000 ∧ P.known.length ≤ 100000) (Post : Option (List Pr) → Pb → Prop) (f : Nat) (hf : f ≤ 2) (hM : MdlT l fs ns Post f P) :
    Calls Tryz.prog 22 #[.pointer (some ⟨pb, 0, none⟩), .slice xa ns.length xc] w (MdlPost S w pb vb kb (.pointer (some ⟨p, 0, none⟩)) (.slice ta l.length tc) fv lv l fs Post) := by
  have hBn : Bnk l := ⟨fun i t ht => hb.four t (List.mem_of_getElem? ht), fun i t ht => hb.args i t ht, fun i j t u ht hu => hb.one t (List.mem_of_getElem? ht) u (List.mem_of_getElem? hu)⟩
  have HI0 : Hid (∃ Q S' lv', PmX S w S' w pb vb kb (.pointer (some ⟨p, 0, none⟩)) (.slice ta l.length tc) fv lv lv' Q ∧ MdlT l fs ns Post f Q ∧ VrP Q ∧ HasV fs Q ∧ (f = 2 → Q.lemmas.length ≤ 100000 ∧ Q.vars.length ≤ 2000 ∧ Q.known.length ≤ 100000)) := ⟨P, S, lv, PmX.start h, hM, hr, hv, fun _ => hsm⟩
  have HE : Hid (_ ∧ _) := And.intro hE hfs
  have HS : Hid SolveOk := hS
  clear h hE hfs hv hr hsm hM hS
  obtain ⟨n, hn⟩ : ∃ n, ns.length = n := ⟨_, rfl⟩
  have HN : Hid _ := hn
  rw [hn]
  clear hn
  go_enter Tryz.func22, Tryz.ntmps22
  go_wp2_with fail
  go_loopg [6] f (fun k _ W => Hid (k ≤ 2 ∧ ∃ Q S' lv', PmX S w S' W pb vb kb (.pointer (some ⟨p, 0, none⟩)) (.slice ta l.length tc) fv lv lv' Q ∧ MdlT l fs ns Post k Q ∧ VrP Q ∧ HasV fs Q ∧ (k = 2 → Q.lemmas.length ≤ 100000 ∧ Q.vars.length ≤ 2000 ∧ Q.known.length ≤ 100000)))
  case atStart => exact ⟨hf, HI0.out⟩
  case round =>
    clear HI0
    obtain ⟨hk2, Q, S1, lv1, X1, hMd, hVr, hHv, hsm⟩ := hrel.out
    cases gk with
    | zero => exact absurd hMd (by simp [MdlT])
    | succ k =>
    obtain ⟨hSlv, hMd⟩ := hMd
    have hE1 : ∀ W', Below wr.heap.size wr W' → Env W' base p ev nb fb l ta tc fv fs xa xc ns := fun W' hB => HE.out.1 W' (X1.below hB).kept
    have Bd : Below wr.heap.size wr wr.drew := ⟨rfl, rfl, rfl, Nat.le_refl _, fun _ _ => rfl⟩
    have X1d := X1.below Bd
    have CL := clausesOf_in S1 wr.drew pb vb kb _ _ fv lv1 Q X1d.is l.length fs (hE1 _ Bd).fms xa xc ns (hE1 _ Bd).nums HE.out.2.lt (by have := HE.out.2.few; omega) hSlv.2.1
    have c4 : wr.cell? ⟨pb, 4, none⟩ = some (.int .i64 (Q.count : Int)) := X1.is.cells.cell (i := 4) (by omega)
    rw [HN.out] at CL
    obtain ⟨cn, hcn⟩ : ∃ c, c = (clsN Q fs ns).length := ⟨_, rfl⟩
    have HCN : Hid _ := hcn
    rw [← hcn] at CL
    have HQ : Hid (_ ∧ _ ∧ _ ∧ _ ∧ _ ∧ _ ∧ _) := And.intro X1 (And.intro hVr (And.intro hHv (And.intro hsm (And.intro hSlv (And.intro hE1 hk2)))))
    have CL2 : Calls Tryz.prog 45 #[.pointer (some ⟨pb, 0, none⟩), .slice xa n xc] wr.drew fun e w' => ∃ ca cc, e = .returned (.slice ca cn cc) ∧ w'.cell? ⟨pb, 4, none⟩ = some (.int .i64 (Q.count : Int)) ∧ Hid (CssAt w' ca (clsN Q fs ns) ∧ Below wr.heap.size wr w') := by
      refine CL.mono ?_
      rintro e w2 ⟨ca, cc, rfl, h1, h2⟩
      have hB2 : Below wr.heap.size wr w2 := Bd.trans h2
      exact ⟨ca, cc, rfl, (hB2.cell (World.block_lt_of_cell? wr _ c4)).trans c4, h1, hB2⟩
    cases hsv : solveN Q.count (clsN Q fs ns) with
    | none => rw [hsv] at hMd; exact absurd hMd (by simp)
    | some r =>
    rw [hsv] at hMd
    have HSV : Hid _ := hsv
    have HMD : Hid _ := hMd
    clear hrel CL Bd X1 X1d hVr hHv hsm hSlv hMd hsv hcn hE1
    obtain ⟨qc, hqc⟩ : ∃ c, c = Q.count := ⟨_, rfl⟩
    have HQC : Hid _ := hqc
    rw [← hqc] at CL2 c4
    clear hqc
    have SV : Hid (∀ (w2 : World) (ca : Option Addr) (cc : Nat), CssAt w2 ca (clsN Q fs ns) → Calls Tryz.prog 44 #[.int .i64 (qc : Int), .slice ca cn cc] w2 (SolvePost w2 qc r)) := fun w2 ca cc hcs => by
      have h5 := HQ.out.2.2.2.2.1
      rw [HQC.out, HCN.out]
      exact HS.out w2 Q.count h5.1 ca _ cc hcs h5.2.1 h5.2.2 r HSV.out
    go_wp2_with fail
    go_cut [6, 7, 8] from 12 to 24 (fun t6 t7 _ wx => (r = none → t7 = .bool false) ∧ (∀ vs, r = some vs → t7 = .bool true ∧ Hid (BsAt wx t6 qc (valB vs))) ∧ Hid (Below wr.heap.size wr wx))
    case first =>
      cases r with
      | none =>
        go_region_law (first | (go_simp; go_at_call 44; refine (SV.out _ _ _ H2.out.1).mono ?_; rintro e w3 ⟨B3, h3, _⟩; obtain rfl := h3 rfl) | (go_simp; go_at_call 45; refine CL2.mono ?_; rintro e w2 ⟨ca, cc, rfl, c4b, H2⟩))
        all_goals
          try simp only [Act.put, List.getElem_toArray, List.getElem_cons_succ, List.getElem_cons_zero, List.setIfInBounds_toArray, List.set_cons_succ, List.set_cons_zero]
          go_wp2_with fail
          go_meet
          case rel => exact ⟨fun _ => rfl, fun vs e => (by cases e), H2.out.2.trans (B3.mono H2.out.2.size)⟩
      | some vs =>
        go_region_law (first | (go_simp; go_at_call 44; refine (SV.out _ _ _ H2.out.1).mono ?_; rintro e w3 ⟨B3, _, h3⟩; obtain ⟨g3, rfl, hg3, hrow3⟩ := h3 vs rfl) | (go_simp; go_at_call 45; refine CL2.mono ?_; rintro e w2 ⟨ca, cc, rfl, c4b, H2⟩))
        all_goals
          try simp only [Act.put, List.getElem_toArray, List.getElem_cons_succ, List.getElem_cons_zero, List.setIfInBounds_toArray, List.set_cons_succ, List.set_cons_zero]
          go_wp2_with fail
          go_meet
          case rel =>
            refine ⟨fun e => (by cases e), fun vs' e => ?_, H2.out.2.trans (B3.mono H2.out.2.size)⟩
            cases e
            refine ⟨rfl, g3, 0, _, rfl, fun k hk => ?_⟩
            have hvl : vs.length = qc := by rw [HQC.out]; exact solveN_len HSV.out
            have hkv : k < vs.length := by rw [hvl]; exact hk
            rw [Nat.zero_add]
            simp only [World.cell?, hrow3]
            simp [hkv, valB]
    case rest =>
      obtain ⟨hr0, hr1, HB1⟩ := hcut
      cases r with
      | none =>
        obtain rfl := hr0 rfl
        have HF : Hid (MdlPost S w pb vb kb (.pointer (some ⟨p, 0, none⟩)) (.slice ta l.length tc) fv lv l fs Post (.returned (.tuple #[.slice none 0 0, .bool false])) wc) := ⟨none, Q, S1, lv1, HMD.out, HQ.out.1.below HB1.out, HQ.out.2.1, HQ.out.2.2.1, fun _ => rfl, fun _ e => (by cases e)⟩
        clear CL2 SV c4 hr0 hr1
        apply_assumption
        go_wp2_with fail
        exact ⟨rfl, .tuple #[.slice none 0 0, .bool false], by simp [results, Tryz.results22], HF.out⟩
      | some vs =>
        obtain ⟨rfl, HBs⟩ := hr1 vs rfl
        clear CL2 SV c4 hr0 hr1
        have X2 := HQ.out.1.below HB1.out
        have E2 := HQ.out.2.2.2.2.2.1 wc HB1.out
        have hVr := HQ.out.2.1
        have hcnt : Q.count ≤ 2000 := HQ.out.2.2.2.2.1.1
        have hpr : ∀ n, n < fs.length → (Fm.get fs n).am.length ≤ 1000000 ∧ ∀ a ∈ (Fm.get fs n).am, PrOk a ∧ (a.1 < l.length ∧ a.2 < l.length) ∧ ∃ z, numV Q.vars a = some z ∧ 1 ≤ z ∧ z ≤ qc := fun m hm => by
          obtain ⟨a1, a2⟩ := HE.out.2.am m hm
          refine ⟨by omega, fun a ha => ?_⟩
          obtain ⟨b1, b2⟩ := a2 a ha
          refine ⟨⟨by omega, by omega⟩, ⟨by omega, b2⟩, ?_⟩
          cases hx : numV Q.vars a with
          | none => exact absurd hx (HQ.out.2.2.1 m hm a ha)
          | some z => exact ⟨z, rfl, by rw [HQC.out]; exact hVr.num hx⟩
        have TO := told_in S1 wc pb vb kb _ _ fv lv1 Q X2.is fs.length _ E2.fms.am u6 qc (valB vs) HBs.out xa xc ns E2.nums HE.out.2.lt (by have := HE.out.2.few; omega) (fun m hm => ⟨(hpr m hm).1, fun a ha => ⟨((hpr m hm).2 a ha).1, ((hpr m hm).2 a ha).2.2⟩⟩) (by rw [HQC.out]; omega)
        obtain ⟨t1, t2, t3⟩ := tolN_ok HE.out.2 HQ.out.2.2.1 hVr hcnt vs
        obtain ⟨told, htold⟩ : ∃ t, t = tolN fs Q ns vs := ⟨_, rfl⟩
        rw [show toldN (valB vs) Q.vars (fun n => (Fm.get fs n).am) [] ns = told from htold.symm, HN.out] at TO
        rw [← htold] at t1 t2 t3
        have HT : Hid (_ ∧ _ ∧ _ ∧ _) := And.intro htold (And.intro t1 (And.intro t2 t3))
        have HP : Hid (_ ∧ _ ∧ _) := And.intro hpr (And.intro X2 E2)
        clear htold t1 t2 t3 X2 E2 hpr
        apply_assumption
        go_wp2_with (first | (go_at_call 46; refine TO.mono ?_; rintro e w2 ⟨tv2, rfl, RT, BT⟩; refine Aside.out ?_))
        delta Aside
        obtain ⟨da, dc, hda⟩ := ownsRow_form RT
        subst hda
        have hB2 : Below wr.heap.size wr w2 := HB1.out.trans (BT.mono HB1.out.size)
        have E2 := HQ.out.2.2.2.2.2.1 w2 hB2
        have X2 := HQ.out.1.below hB2
        have c0 : w2.cell? ⟨pb, 0, none⟩ = some (.pointer (some ⟨p, 0, none⟩)) := X2.is.cells.cell (i := 0) (by omega)
        have CLO := closed_in w2 base p ev nb fb l E2.bank hb hl pb c0 da dc told (PsAt.of_row RT) (fun q hq => by have := HT.out.2.2.1 q hq; omega) (by have := HT.out.2.1; omega)
        have CLO2 : Calls Tryz.prog 47 #[.pointer (some ⟨pb, 0, none⟩), .slice da told.length dc] w2 fun e w' => ∃ b, e = .returned (.slice (some ⟨b, 0, none⟩) l.length l.length) ∧ Hid (∃ g : Nat → Nat, w2.heap.size ≤ b ∧ w'.rowIs b 3 l.length (fun i => .int .i64 (g i : Int)) ∧ (∀ i j, i < l.length → j < l.length → decide (g i = g j) = cgN l told i j) ∧ Below w2.heap.size w2 w') := by
          refine CLO.mono ?_
          rintro e w3 ⟨g, b, rfl, h1, h2, h3, h4⟩
          refine ⟨b, rfl, g, h1, h2, fun i j hi hj => ?_, h4⟩
          have hc := cgN_iff hBn HT.out.2.2.1 hi hj
          have hg := h3 i j hi hj
          cases hcc : cgN l told i j
          · refine decide_eq_false fun e => ?_
            rw [hc.2 (hg.1 e)] at hcc
            cases hcc
          · exact decide_eq_true (hg.2 (hc.1 hcc))
        have HRT : Hid (_ ∧ _ ∧ _) := And.intro RT (And.intro hB2 BT)
        clear CLO RT BT E2 X2 c0 TO
        obtain ⟨tn, htn⟩ : ∃ t, told.length = t := ⟨_, rfl⟩
        have HTN : Hid _ := htn
        obtain ⟨ln, hln⟩ : ∃ t, l.length = t := ⟨_, rfl⟩
        have HLN : Hid _ := hln
        rw [htn, hln] at CLO2
        rw [htn]
        clear htn hln
        apply_assumption
        go_wp2_with (first | (go_at_call 47; refine CLO2.mono ?_; rintro e w3 ⟨cb, rfl, H3⟩; refine Aside.out ?_))
        delta Aside
        obtain ⟨g, hcb, hg, hgq, hB3⟩ := H3.out
        rw [← HLN.out] at hg hgq
        have hB3w : Below wr.heap.size wr w3 := HRT.out.2.1.trans (hB3.mono HRT.out.2.1.size)
        have E3 := HQ.out.2.2.2.2.2.1 w3 hB3w
        have X3 := HQ.out.1.below hB3w
        have hBc3 : Below wc.heap.size wc w3 := HRT.out.2.2.trans (hB3.mono HRT.out.2.2.size)
        have WR := wrong_in S1 w3 pb vb kb _ _ fv lv1 Q X3.is l.length fs E3.fms u6 qc (valB vs) (HBs.out.below hBc3) cb g hg (cgN l told) hgq xa xc ns E3.nums HE.out.2.lt (by have := HE.out.2.few; omega) HP.out.1 (by rw [HQC.out]; omega) (by omega)
        obtain ⟨wr1, hwr1⟩ : ∃ t, t = wroN l fs Q ns vs := ⟨_, rfl⟩
        have ewr : wrongN (valB vs) Q.vars (cgN l told) (fun n => (Fm.get fs n).am) (fun n => (Fm.get fs n).ev (cgN l told)) [] ns = wr1 := by
          rw [hwr1, HT.out.1]
          rfl
        rw [ewr, HN.out, HLN.out] at WR
        have HWR : Hid (_ ∧ _) := And.intro hwr1 ewr
        have H3b : Hid (_ ∧ _ ∧ _ ∧ _ ∧ _) := And.intro hcb (And.intro hg (And.intro hgq (And.intro hB3 hB3w)))
        clear hcb hg hgq hB3 hB3w E3 X3 hBc3 H3 CLO2 hwr1 ewr
        apply_assumption
        go_wp2_with (first | (go_at_call 48; refine WR.mono ?_; rintro e w4 ⟨wv, rfl, R4, B4⟩; refine Aside.out ?_))
        delta Aside
        have hB4 : Below wr.heap.size wr w4 := H3b.out.2.2.2.2.trans (B4.mono H3b.out.2.2.2.2.size)
        obtain ⟨wa, wcap, hwa⟩ := ownsRow_form R4
        subst hwa
        by_cases hw0 : wr1 = []
        · have HF : Hid (MdlPost S w pb vb kb (.pointer (some ⟨p, 0, none⟩)) (.slice ta l.length tc) fv lv l fs Post (.returned (.tuple #[.slice (some ⟨cb, 0, none⟩) ln ln, .bool true])) w4) := by
            refine ⟨some told, Q, S1, lv1, ?_, HQ.out.1.below hB4, HQ.out.2.1, HQ.out.2.2.1, fun e => (by cases e), fun t e => ?_⟩
            · have := HMD.out.1 (by rw [← HWR.out.1]; exact hw0)
              rw [HT.out.1]
              exact this
            · cases e
              refine ⟨cb, g, by rw [HLN.out], ?_, ?_, H3b.out.2.2.1⟩
              · have h1 := H3b.out.1
                have h2 := HRT.out.2.1.size
                have h3 := HQ.out.1.kept.size
                omega
              · have h1 := H3b.out.2.1
                exact World.rowIs.of_block h1 (B4.block cb h1.lt)
          have hwl : wr1.length = 0 := by rw [hw0]; rfl
          rw [hwl]
          clear R4 B4 WR
          apply_assumption
          go_wp2_with fail
          exact ⟨rfl, .tuple #[.slice (some ⟨cb, 0, none⟩) ln ln, .bool true], by simp [results, Tryz.results22], HF.out⟩
        · obtain ⟨hl1, hlrn⟩ := HMD.out.2 (by rw [← HWR.out.1]; exact hw0)
          rw [← HWR.out.1] at hl1 hlrn
          obtain ⟨a, ha⟩ : ∃ a, wr1 = [a] := by
            match wr1, hw0, hl1 with
            | [], h, _ => exact absurd rfl h
            | [a], _, _ => exact ⟨a, rfl⟩
            | _ :: _ :: _, _, h => simp at h
          have hmem : a ∈ wr1 := by rw [ha]; simp
          rw [← HWR.out.2, wrongN_mem] at hmem
          obtain ⟨⟨m, hmn, _, hma⟩, hcga, _⟩ := hmem.resolve_left (by simp)
          have haok := (HE.out.2.am m (HE.out.2.lt m hmn)).2 a hma
          obtain ⟨V, hV⟩ : ∃ V, numV Q.vars a = some V := by
            cases hx : numV Q.vars a with
            | none => exact absurd hx (HQ.out.2.2.1 m (HE.out.2.lt m hmn) a hma)
            | some z => exact ⟨z, rfl⟩
          obtain ⟨⟨hl1, hk1⟩, hlrn⟩ := HMD.out.2 (by rw [← HWR.out.1]; exact hw0)
          rw [← HWR.out.1, ← HT.out.1] at hlrn
          have hk2' : k = 1 := by have := HQ.out.2.2.2.2.2.2; omega
          subst hk2'
          obtain ⟨sm1, sm2, sm3⟩ := HQ.out.2.2.2.1 rfl
          have hBt4 : Below w2.heap.size w2 w4 := H3b.out.2.2.2.1.trans (B4.mono H3b.out.2.2.2.1.size)
          have E4 := HQ.out.2.2.2.2.2.1 w4 hB4
          have X4 := HQ.out.1.below hB4
          rw [ha] at R4
          have LN := learn_in S1 w4 pb vb kb fv lv1 Q base p ev nb fb l ta tc X4.is E4.bank hb hl E4.terms da dc told ((PsAt.of_row HRT.out.1).below hBt4) HT.out.2.1 HT.out.2.2.1 HT.out.2.2.2 a haok V hV ((cgN_iff hBn HT.out.2.2.1 (by omega) haok.2).1 hcga) wa wcap (PsAt.of_row R4) sm1 hcnt sm2 sm3 HQ.out.2.1.s
          rw [HTN.out] at LN
          rw [ha] at hlrn ⊢
          have HLR : Hid (_ ∧ _) := And.intro hlrn X4
          clear hlrn X4 E4 R4 B4 WR hmem hma hcga haok hV hBt4 sm1 sm2 sm3 hB4
          apply_assumption
          go_wp2_with (first | (go_at_call 49; refine LN.mono ?_; rintro e w5 ⟨rfl, F, Q5, S5, lv5, hF, hR5, X5⟩))
          go_roundg 1
          case measure => omega
          case rel =>
            obtain ⟨k3, k4⟩ := hR5.keeps HQ.out.2.1
            exact ⟨by omega, Q5, S5, lv5, HLR.out.2.trans X5, HLR.out.1 F Q5 hF hR5, k3, fun m hm b hb => k4 b (HQ.out.2.2.1 m hm b hb), fun e => by omega⟩
end Go.Proofs.YtlehlgipbhfioaaGreat

namespace Go.Proofs.YtlehlgipbhfioaaGreat
theorem solveOk : SolveOk := fun w n hn ca css cc h hl hc r hr => Solve_in w n hn ca css cc h hl (fun c hcs => hc c hcs) r hr
end Go.Proofs.YtlehlgipbhfioaaGreat
