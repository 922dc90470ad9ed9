/- Package logic: Clauses, of a formula. Package decide: add, plainly: the names. Package decide: add, in memory: its clauses are renamed, its formula is appended. Package decide: add. Package decide: newProblem: what it works on. Package decide: newProblem. -/
import Derived.Test.YtlehlgipbhfioaaGreatP40
import Derived.Test.YtlehlgipbhfioaaGreatFiB
import Derived.Test.YtlehlgipbhfioaaGreatP39
import Derived.Test.YtlehlgipbhfioaaGreatP19
namespace Go.Proofs.YtlehlgipbhfioaaGreat
open Go.RowKit Go.Shelf

theorem ClauseG_in (w : World) (v : Value) (f : Fo) (hv : FIs w v f) (hwf : WfF f) (hN : szF f ≤ 1048576) (hR : RF f) (ps : List (Int × Int)) (hps : ps = ats (eqF f)) (hpl : ps.length ≤ 1048576) (R : Int × Sc) (hRR : R = Cn.tse (numP ps) f (ps.length, [])) :
    Calls Tryz.prog 77 #[v] w fun e w' => ∃ ca cc, e = .returned (.tuple #[.slice ca (R.2.2 ++ [[R.1]]).length cc, .int .i64 (R.2.1 : Int)]) ∧ Cl2 w' ca (R.2.2 ++ [[R.1]]) ∧ ClOwn w.heap.size w' (.slice ca (R.2.2 ++ [[R.1]]).length cc) (R.2.2 ++ [[R.1]]) ∧ Below w.heap.size w w' := by
  have hv0 := hv
  obtain ⟨op, x, y, kv, kids, rfl, hk, hks, hfe⟩ := hv
  obtain ⟨ka, kc, hkv, _⟩ := id hk
  subst hkv
  obtain ⟨t, ht⟩ : ∃ t, t = Lf.mk w.heap.size 0 op x y (.slice ka kids.length kc) kids := ⟨_, rfl⟩
  have hkt : t.kids = kids := by rw [ht]; rfl
  have he : t.er = f := by rw [ht, Lf.er, hfe]
  have hte : t = .mk w.heap.size 0 op x y (.slice ka kids.length kc) t.kids := by rw [hkt]; exact ht
  rw [← hkt] at hk hks
  have htb : t.b = w.heap.size ∧ t.o = 0 := by rw [hte]; exact ⟨rfl, rfl⟩
  have hlen : (es t).length ≤ 1048576 := by
    have h1 : (es t).length ≤ (wk t 0).length := List.length_filterMap_le isEnd (wk t 0)
    rw [len_wk, he] at h1
    omega
  have FO : Hid (∀ (W : World) (u : Value), ClS w W t u ps ps.length → Calls Tryz.prog 119 #[.pointer (some ⟨w.heap.size, 0, none⟩), .func (.func 120) #[.pointer (some ⟨w.heap.size + 2, 0, none⟩)] #[]] W fun e w' => e = .returned (.int .i64 R.1) ∧ Made (fun k => k = w.heap.size + 2 ∨ k = w.heap.size + 1) W w' (w.heap.size + 2) (w.heap.size + 1) ps (.slice none 0 0) R.2) := fun W u h => by
    have hm := h.maker
    rw [List.take_length] at hm
    have hwt : WfF t.er := by rw [he]; exact hwf
    have hok := stC_ok (numP ps) hwt ps.length (fun p _ => numP_le ps p)
    have := foldi_in W t (numP ps) ps.length _ (w.heap.size + 2) (w.heap.size + 1) ps (.slice none 0 0) h.here (by rw [len_wk, he]; omega) hm (fun W' S rv i z sv args hz hM hH ha hA hal => by
      have hil := (List.getElem?_eq_some_iff.1 hz).1
      obtain ⟨o1, o2, o3, o4⟩ := hok i (by omega)
      have hzm := List.mem_of_getElem? hz
      exact literal_in W' S (w.heap.size + 2) (w.heap.size + 1) ps rv _ hM (by omega) (by omega) z hH (whl_wf (es_wf hwt t rfl z hzm)) (es_R (by rw [he]; exact hR) z hzm) sv args hA hal (fun v hv => by
        rw [ha] at hv
        have := o1 v (List.mem_of_mem_drop hv)
        omega)) R.1 R.2 (by rw [stC_all _ hwt, he, ← hRR])
    rw [htb.1, htb.2] at this
    exact this
  have hcn := Cn.tse_count (numP ps) hwf (ps.length, [])
  have hct := Cn.cnt_told hwf
  have hcl := cnt_le hwf
  have h := clauses_w w op x y ka kids.length kc t f hte he hv0 hN hR (by rw [hkt] at hk ⊢; exact hk) hks ps hps hpl R (by rw [hRR, hcn.2]; simp; omega) FO
  exact h
theorem ClauseF_in (w : World) (v : Value) (f : Fo) (hv : FIs w v f) (hwf : WfF f) (hN : szF f ≤ 1048576) (hR : RF f) (ps : List (Int × Int)) (hps : ps = ats (eqF f)) (hpl : ps.length ≤ 1048576) (R : Int × Sc) (hRR : R = Cn.tse (numP ps) f (ps.length, [])) :
    Calls Tryz.prog 77 #[v] w fun e w' => ∃ ca cc, e = .returned (.tuple #[.slice ca (R.2.2 ++ [[R.1]]).length cc, .int .i64 (R.2.1 : Int)]) ∧ Cl2 w' ca (R.2.2 ++ [[R.1]]) ∧ Below w.heap.size w w' :=
  (ClauseG_in w v f hv hwf hN hR ps hps hpl R hRR).mono fun _ _ ⟨ca, cc, h1, h2, _, h3⟩ => ⟨ca, cc, h1, h2, h3⟩

end Go.Proofs.YtlehlgipbhfioaaGreat

namespace Go.Proofs.YtlehlgipbhfioaaGreat
open Go.RowKit Go.Maps

/-- The variables' numbers are at most as many as there are. -/
def VqP (P : Pb) : Prop := ∀ e ∈ P.vars, e.2 ≤ P.count
theorem vari_small {P : Pb} (h : VqP P) (a : Pr) : VqP (P.vari a).2 ∧ (P.vari a).1 ≤ (P.vari a).2.count ∧ P.count ≤ (P.vari a).2.count ∧ (P.vari a).2.count ≤ P.count + 1 ∧ (P.vari a).2.vars.length ≤ P.vars.length + 1 ∧ (P.vari a).2.lemmas.length ≤ P.lemmas.length + 1 := by
  unfold Pb.vari
  cases hn : P.num a with
  | some x =>
    refine ⟨h, ?_, Nat.le_refl _, Nat.le_succ _, Nat.le_succ _, Nat.le_succ _⟩
    unfold Pb.num at hn
    cases hf : P.vars.find? fun e => decide (e.1 = a) with
    | none => rw [hf] at hn; cases hn
    | some e =>
      rw [hf] at hn
      cases hn
      exact h e (List.mem_of_find?_eq_some hf)
  | none =>
    refine ⟨fun e he => ?_, Nat.le_refl _, Nat.le_succ _, Nat.le_refl _, by simp, ?_⟩
    · rcases List.mem_append.1 he with he | he
      · exact Nat.le_succ_of_le (h e he)
      · simp at he
        subst he
        exact Nat.le_refl _
    · show (if a.1 = a.2 then _ else _ : List (List Int)).length ≤ _
      split <;> simp
theorem names_small : ∀ (r : List Pr) (P : Pb), VqP P → VqP (Pb.names r P).2 ∧ (∀ x ∈ (Pb.names r P).1, x ≤ (Pb.names r P).2.count) ∧ P.count ≤ (Pb.names r P).2.count ∧ (Pb.names r P).2.count ≤ P.count + r.length ∧ (Pb.names r P).2.vars.length ≤ P.vars.length + r.length ∧ (Pb.names r P).2.lemmas.length ≤ P.lemmas.length + r.length
  | [], P, h => ⟨h, fun _ hx => by simp [Pb.names] at hx, Nat.le_refl _, Nat.le_refl _, Nat.le_refl _, Nat.le_refl _⟩
  | a :: r, P, h => by
    obtain ⟨a1, a2, a3, a4, a5, a6⟩ := vari_small h a
    obtain ⟨b1, b2, b3, b4, b5, b6⟩ := names_small r (P.vari a).2 a1
    rw [Pb.names]
    simp only [List.length_cons]
    refine ⟨b1, fun x hx => ?_, by omega, by omega, by omega, by omega⟩
    rcases List.mem_cons.1 hx with rfl | hx
    · omega
    · exact b2 x hx
theorem tse_few (an : Int × Int → Nat) {f : Fo} (hw : WfF f) : ∀ st : Sc, (∀ c ∈ st.2, c.length ≤ 3) → ∀ c ∈ (Cn.tse an f st).2.2, c.length ≤ 3 := by
  have hb : ∀ (p q : Int) (st : Sc), (∀ c ∈ st.2, c.length ≤ 3) → ∀ c ∈ (Cn.both p q st).2.2, c.length ≤ 3 := by
    intro p q st h c hc
    unfold Cn.both at hc
    rcases List.mem_append.1 hc with hc | hc
    · exact h c hc
    · simp at hc
      rcases hc with rfl | rfl | rfl <;> simp
  induction hw with
  | eq x y => intro st h; simpa [Cn.tse] using h
  | neg f hf ih =>
    intro st h
    have := ih st h
    simpa [Cn.tse] using this
  | two o f g ho hf hg ih1 ih2 =>
    intro st h
    have := ih2 _ (ih1 st h)
    rcases ho with rfl | rfl | rfl
    · rw [Cn.tse] <;> simp
      exact fun c hc => hb _ _ _ this c hc
    · rw [Cn.tse] <;> simp
      exact fun c hc => hb _ _ _ this c hc
    · rw [Cn.tse] <;> simp
      exact fun c hc => hb _ _ _ this c hc
/-- A formula's clauses. -/
def csN (f : Fo) : List (List Int) := (tseN f).2.2 ++ [[(tseN f).1]]
theorem csN_ok {f : Fo} (hw : WfF f) (hsz : szF f ≤ 1000) : (∀ c ∈ csN f, c.length ≤ 3 ∧ ∀ x ∈ c, x.natAbs ≤ (tseN f).2.1) ∧ (ats (eqF f)).length ≤ (tseN f).2.1 ∧ (tseN f).2.1 ≤ 1000 ∧ (csN f).length ≤ 4002 := by
  have hm : ∀ p ∈ eqF f, 1 ≤ numP (ats (eqF f)) p ∧ numP (ats (eqF f)) p ≤ (ats (eqF f)).length := fun p hp => by
    have : p ∈ ats (eqF f) := by rw [mem_ats]; exact hp
    exact ⟨by unfold numP; rw [if_pos this]; omega, numP_le _ p⟩
  obtain ⟨news, T⟩ := Cn.tse_told (numP (ats (eqF f))) hw ((ats (eqF f)).length, []) hm
  obtain ⟨c1, c2⟩ := Cn.tse_count (numP (ats (eqF f))) hw ((ats (eqF f)).length, [])
  have ht := Cn.cnt_told hw
  have hc := cnt_le hw
  have hs := tse_few (numP (ats (eqF f))) hw ((ats (eqF f)).length, []) (by simp)
  have hal := ats_len (eqF f)
  change Cn.Told _ _ _ (tseN f).1 (tseN f).2 _ at T
  change (tseN f).2.1 = _ at c1
  change (tseN f).2.2.length = _ at c2
  change ∀ c ∈ (tseN f).2.2, _ at hs
  have hcl : (tseN f).2.2 = news := by rw [T.cls]; rfl
  simp only [List.length_nil, Nat.zero_add] at c1 c2
  unfold csN
  refine ⟨fun c hc => ?_, by omega, by omega, by simp; omega⟩
  rcases List.mem_append.1 hc with hc | hc
  · refine ⟨hs c hc, fun x hx => ?_⟩
    rw [hcl] at hc
    exact (T.all c hc x hx).2
  · simp at hc
    subst hc
    refine ⟨by simp, fun x hx => ?_⟩
    simp at hx
    subst hx
    exact T.le.2
/-- The names, while the atoms are gone through. -/
def nmA (P : Pb) (am : List Pr) (n i : Nat) : List Nat := 0 :: ((Pb.names (am.take i) P).1 ++ List.replicate (n - i) 0)
theorem nmA_len (P : Pb) (am : List Pr) {n i : Nat} (hi : i ≤ am.length) (hn : i ≤ n) : (nmA P am n i).length = n + 1 := by
  unfold nmA
  rw [List.length_cons, List.length_append, names_len, List.length_take, List.length_replicate]
  omega
theorem nmA_succ (P : Pb) (am : List Pr) {n i : Nat} {a : Pr} (ha : am[i]? = some a) (hn : i < n) : (nmA P am n i).set (i + 1) ((Pb.names (am.take i) P).2.vari a).1 = nmA P am n (i + 1) ∧ (Pb.names (am.take (i + 1)) P).2 = ((Pb.names (am.take i) P).2.vari a).2 := by
  have hil := (List.getElem?_eq_some_iff.1 ha).1
  have e : am.take (i + 1) = am.take i ++ [a] := by rw [List.take_add_one, ha]; rfl
  have hl : (Pb.names (am.take i) P).1.length = i := by rw [names_len, List.length_take]; omega
  unfold nmA
  rw [e, names_snoc]
  refine ⟨?_, rfl⟩
  rw [List.set_cons_succ, List.set_append_right _ _ (by omega), hl, Nat.sub_self, show n - i = (n - (i + 1)) + 1 by omega, List.replicate_succ, List.set_cons_zero, List.append_assoc]
  rfl
/-- .. and the others. -/
def nmB (P : Pb) (am : List Pr) (n j : Nat) : List Nat := 0 :: ((Pb.names am P).1 ++ ((List.range j).map (fun i => (Pb.names am P).2.count + 1 + i) ++ List.replicate (n - am.length - j) 0))
theorem nmB_start (P : Pb) (am : List Pr) (n : Nat) : nmA P am n am.length = nmB P am n 0 := by
  unfold nmA nmB
  rw [List.take_length]
  rfl
theorem nmB_succ (P : Pb) (am : List Pr) {n j : Nat} (hn : am.length + j < n) : (nmB P am n j).set (am.length + 1 + j) ((Pb.names am P).2.count + 1 + j) = nmB P am n (j + 1) := by
  unfold nmB
  rw [show am.length + 1 + j = (am.length + j) + 1 by omega, List.set_cons_succ, List.set_append_right _ _ (by rw [names_len]; omega), names_len, Nat.add_sub_cancel_left, List.set_append_right _ _ (by simp), List.length_map, List.length_range, Nat.sub_self, show n - am.length - j = (n - am.length - (j + 1)) + 1 by omega, List.replicate_succ, List.set_cons_zero, List.range_succ, List.map_append, List.append_assoc]
  rfl
theorem nmB_len (P : Pb) (am : List Pr) {n j : Nat} (hn : am.length + j ≤ n) : (nmB P am n j).length = n + 1 := by
  unfold nmB
  simp only [List.length_cons, List.length_append, List.length_map, List.length_range, List.length_replicate, names_len]
  omega
theorem nmB_fin (P : Pb) (f : Fo) : nmB P (atsN f) (tseN f).2.1 ((tseN f).2.1 - (atsN f).length) = nmsN P f := by
  unfold nmB nmsN
  rw [Nat.sub_self]
  simp
theorem nmsN_small {P : Pb} (h : VqP P) (f : Fo) (hc : P.count ≤ 100000) (hn : (tseN f).2.1 ≤ 1000) (ha : (atsN f).length ≤ 1000) : ∀ x ∈ nmsN P f, x ≤ 1048576 := by
  obtain ⟨b1, b2, b3, b4, b5, b6⟩ := names_small (atsN f) P h
  intro x hx
  unfold nmsN at hx
  rcases List.mem_cons.1 hx with rfl | hx
  · omega
  · rcases List.mem_append.1 hx with hx | hx
    · have := b2 x hx
      omega
    · obtain ⟨i, hi, rfl⟩ := List.mem_map.1 hx
      have := List.mem_range.1 hi
      omega
end Go.Proofs.YtlehlgipbhfioaaGreat

namespace Go.Proofs.YtlehlgipbhfioaaGreat
open Go.RowKit Go.Maps

def boxQ (op x y : Int) (kv : Value) : Nat → Value := fun j => if j = 0 then .int .i64 op else if j = 1 then .int .i64 x else if j = 2 then .int .i64 y else kv
/-- What add has made ahead of its loops: the Form's box, the clauses, the atoms' pairs. -/
structure AdF (B nb : Nat) (W : World) (op x y : Int) (kv cv : Value) (rs : List Value) (cs : List (List Int)) (u : Value) (ps : List (Int × Int)) : Prop where
  box : W.rowIs B 36 4 (boxQ op x y kv)
  row : W.ownsRow B 39 1 cv rs.length rs
  dst : rs.length = cs.length ∧ RsDst rs
  cls : ∀ (i : Nat) (c : List Int), cs[i]? = some c → ∃ g cap, rs[i]? = some (.slice (some ⟨g, 0, none⟩) c.length cap) ∧ B ≤ g ∧ g ≠ nb ∧ Rw W g c
  pr : W.ownsRow B 34 2 u ps.length (pairC ps)
theorem AdF.keep {B nb : Nat} {W W' : World} {op x y : Int} {kv cv : Value} {rs : List Value} {cs : List (List Int)} {u : Value} {ps : List (Int × Int)} (h : AdF B nb W op x y kv cv rs cs u ps) {nm : List Int} (hr : Rw W nb nm) (hk : ∀ k, B ≤ k → k < W.heap.size → k ≠ nb → W'.heap[k]? = W.heap[k]?) : AdF B nb W' op x y kv cv rs cs u ps := by
  refine ⟨h.box.of_block (hk B (Nat.le_refl _) h.box.lt (hr.nerow h.box (by decide)).symm), ownsRow_blk h.row (fun b hb => hk b (ownsRow_lt h.row hb).1 (ownsRow_lt h.row hb).2 (fun e => hr.neown h.row (by decide) (e ▸ hb))), h.dst, fun i c hi => ?_, ownsRow_blk h.pr (fun b hb => hk b (ownsRow_lt h.pr hb).1 (ownsRow_lt h.pr hb).2 (fun e => hr.neown h.pr (by decide) (e ▸ hb)))⟩
  obtain ⟨g, cap, q1, q2, q3, q4⟩ := h.cls i c hi
  exact ⟨g, cap, q1, q2, q3, q4.block (hk g q2 q4.lt q3)⟩
/-- add, when its clauses are renamed. -/
structure Ae (w : World) (S' : Nat → Prop) (W : World) (pb vb kb : Nat) (bk tv fv lv lv' : Value) (P : Pb) (nb : Nat) (nm : List Nat) (v : Value) (am : List Pr) (cv : Value) (rs : List Value) (cs : List (List Int)) (op x y : Int) (kv : Value) : Prop where
  pm : Pm S' W pb vb kb bk tv fv lv' P
  sep : ∀ (i g n c : Nat), rs[i]? = some (.slice (some ⟨g, 0, none⟩) n c) → ¬ S' g
  lvc : ∀ k, cv.ownBlock = some k → lv'.ownBlock ≠ some k
  kept : Kept (PD pb vb kb lv) w W
  nms : RowN W nb nm
  ats : W.ownsRow w.heap.size 34 2 v am.length (rowP am)
  box : W.rowIs w.heap.size 36 4 (boxQ op x y kv)
  row : W.ownsRow w.heap.size 39 1 cv rs.length rs
  dst : rs.length = cs.length ∧ RsDst rs
  cls : ∀ (i : Nat) (c : List Int), cs[i]? = some c → ∃ g cap, rs[i]? = some (.slice (some ⟨g, 0, none⟩) c.length cap) ∧ w.heap.size ≤ g ∧ g ≠ nb ∧ Rw W g c
theorem Ae.below {w : World} {S' : Nat → Prop} {W W' : World} {pb vb kb : Nat} {bk tv fv lv lv' : Value} {P : Pb} {nb : Nat} {nm : List Nat} {v : Value} {am : List Pr} {cv : Value} {rs : List Value} {cs : List (List Int)} {op x y : Int} {kv : Value} (h : Ae w S' W pb vb kb bk tv fv lv lv' P nb nm v am cv rs cs op x y kv) (hB : Below W.heap.size W W') : Ae w S' W' pb vb kb bk tv fv lv lv' P nb nm v am cv rs cs op x y kv := by
  refine ⟨h.pm.below hB, h.sep, h.lvc, h.kept.under hB, (hB.block nb (Array.getElem?_eq_some_iff.1 h.nms).1).trans h.nms, ownsRow_below h.ats hB, h.box.of_block (hB.block _ h.box.lt), ownsRow_below h.row hB, h.dst, fun i c hi => ?_⟩
  obtain ⟨g, cap, q1, q2, q3, q4⟩ := h.cls i c hi
  exact ⟨g, cap, q1, q2, q3, q4.block (hB.block g q4.lt)⟩
theorem Ae.ren {w : World} {S' : Nat → Prop} {W W' : World} {pb vb kb : Nat} {bk tv fv lv lv' : Value} {P : Pb} {nb : Nat} {nm : List Nat} {v : Value} {am : List Pr} {cv : Value} {rs : List Value} {cs : List (List Int)} {op x y : Int} {kv : Value} (h : Ae w S' W pb vb kb bk tv fv lv lv' P nb nm v am cv rs cs op x y kv)
    {i g cap : Nat} {c c' : List Int} (hi : cs[i]? = some c) (hg : rs[i]? = some (.slice (some ⟨g, 0, none⟩) c.length cap)) (hl : c'.length = c.length) (K : Kept (fun k => k = g) W W') (hr : Rw W' g c') : Ae w S' W' pb vb kb bk tv fv lv lv' P nb nm v am cv rs (cs.set i c') op x y kv := by
  obtain ⟨g2, cap2, q1, q2, q3, q4⟩ := h.cls i c hi
  rw [hg] at q1
  cases q1
  have hbk : ∀ k, PD pb vb kb lv' k → W'.heap[k]? = W.heap[k]? := fun k hk => K.block k (h.pm.pdlt hk) (fun e => Rw.pdne h.pm q4 (e ▸ hk))
  refine ⟨h.pm.keep K.size (hbk _ (Or.inl rfl)) (hbk _ (Or.inr (Or.inl rfl))) (hbk _ (Or.inr (Or.inr (Or.inl rfl)))) (fun b hb => hbk b (Or.inr (Or.inr (Or.inr hb)))) (fun g' c hg' hc => K.block g' hc.lt (fun e => h.sep i _ _ _ hg (e ▸ hg'))), h.sep, h.lvc, h.kept.far K (fun k hk => Or.inr (by rw [hk]; exact q2)), (K.block nb (Array.getElem?_eq_some_iff.1 h.nms).1 (fun e => q3 e.symm)).trans h.nms, ownsRow_blk h.ats (fun b hb => K.block b (ownsRow_lt h.ats hb).2 (fun e => q4.neown h.ats (by decide) (e ▸ hb))), h.box.of_block (K.block _ h.box.lt (fun e => q4.nerow h.box (by decide) e.symm)), ownsRow_blk h.row (fun b hb => K.block b (ownsRow_lt h.row hb).2 (fun e => q4.neown h.row (by decide) (e ▸ hb))), ⟨by rw [List.length_set]; exact h.dst.1, h.dst.2⟩, fun j d hj => ?_⟩
  by_cases hji : i = j
  · subst hji
    rw [List.getElem?_set_self (List.getElem?_eq_some_iff.1 hi).1] at hj
    cases hj
    exact ⟨g, cap, by rw [hl]; exact hg, q2, q3, hr⟩
  · rw [List.getElem?_set_ne hji] at hj
    obtain ⟨g3, cap3, r1, r2, r3, r4⟩ := h.cls j d hj
    exact ⟨g3, cap3, r1, r2, r3, r4.block (K.block g3 r4.lt (fun e => hji (h.dst.2 i j g _ _ _ _ hg (e ▸ r1))))⟩
theorem Np.push {Φ : World → Prop} {B : Nat} {S S' : Nat → Prop} {w W W1 w8 : World} {pb vb kb : Nat} {bk tv fv lv lv' v8 : Value} {P P' : Pb} {N : Nat} {fs : List Fm} {gs : List Sx} (h : Np Φ B S w pb vb kb bk tv fv lv P N fs gs) (hBw : B ≤ w.heap.size) {op x y : Int} {ka : Option Addr} {kn kc : Nat} {f : Fo} (hv : Stab (Dq pb vb kb lv fv) w fun W => FIs W (.agg #[.int .i64 op, .int .i64 x, .int .i64 y, .slice ka kn kc]) f) (hsz : szF f ≤ 1048576) (hRF : RF f)
    {nb : Nat} {nm : List Nat} {v : Value} {am : List Pr} {ca : Option Addr} {cc : Nat} {rs : List Value} {cs : List (List Int)} (e : Ae w S' W pb vb kb bk tv fv lv lv' P' nb nm v am (.slice ca cs.length cc) rs cs op x y (.slice ka kn kc)) (hat : lv'.ownBlock = lv.ownBlock ∨ ∀ k, lv'.ownBlock = some k → w.heap.size ≤ k)
    (hB1 : Below W.heap.size W W1) (hown : w8.ownsRow B 172 6 v8 (gs.length + 1) (gs.flatMap sxL ++ sxL ⟨op, x, y, ka, kn, kc, v, .slice ca cs.length cc⟩)) (hgrow : W1.grownBy w8 fv.ownBlock) (hat8 : v8.ownBlock = fv.ownBlock ∨ ∀ k, v8.ownBlock = some k → W1.heap.size ≤ k) :
    w8.cell? ⟨pb, 2, none⟩ = some fv ∧ w8.frozen? ⟨pb, 2, none⟩ = false ∧ Np Φ B S' (w8.setCell ⟨pb, 2, none⟩ v8) pb vb kb bk tv v8 lv' P' N (fs ++ [⟨am, cs, fun e => evE N e f⟩]) (gs ++ [⟨op, x, y, ka, kn, kc, v, .slice ca cs.length cc⟩]) := by
  have e1 := e.below hB1
  have hfv1 : W1.ownsRow B 172 6 fv gs.length (gs.flatMap sxL) := ownsRow_below (ownsRow_blk h.row (fun b hb => e.kept.block b (ownsRow_lt h.row hb).2 (h.pm.pdne h.row (by decide) (by decide) hb))) hB1
  have nb8 : ∀ k, k < W1.heap.size → fv.ownBlock ≠ some k → w8.heap[k]? = W1.heap[k]? := fun k hk hne => hgrow.block k hk (fun e => hne e.symm)
  have hp : fv.ownBlock ≠ some pb := rowIs_type e1.pm.cells (by decide) hfv1
  have c8 : w8.rowIs pb 118 7 (pmC bk tv fv vb P'.count lv' kb) := e1.pm.cells.of_block (nb8 _ e1.pm.cells.lt hp)
  have hp8 : v8.ownBlock ≠ some pb := rowIs_type c8 (by decide) hown
  have K9 : Kept (fun k => k = pb) w8 (w8.setCell ⟨pb, 2, none⟩ v8) := Kept.setCell (S := fun k => k = pb) (Kept.refl _ w8) (p := ⟨pb, 2, none⟩) rfl v8
  refine ⟨c8.cell (i := 2) (by omega), c8.frozen 2, ?_⟩
  have hw9 : (w8.setCell ⟨pb, 2, none⟩ v8).rowIs pb 118 7 (pmC bk tv v8 vb P'.count lv' kb) := (c8.set 2 v8).congr (fun j hj => by
    unfold pmC
    by_cases e : j = 2
    · subst e; simp
    · rw [if_neg e]
      have : j = 0 ∨ j = 1 ∨ j = 3 ∨ j = 4 ∨ j = 5 ∨ j = 6 := by omega
      rcases this with rfl | rfl | rfl | rfl | rfl | rfl <;> rfl)
  generalize w8.setCell ⟨pb, 2, none⟩ v8 = w9 at *
  have z19 : W1.heap.size ≤ w9.heap.size := Nat.le_trans hgrow.size K9.size
  have nb9 : ∀ k, k < W1.heap.size → fv.ownBlock ≠ some k → k ≠ pb → w9.heap[k]? = W1.heap[k]? := fun k hk hne hn => (K9.block k (Nat.lt_of_lt_of_le hk hgrow.size) hn).trans (nb8 k hk hne)
  have own9 : ∀ {base size n : Nat} {t : TypeId} {u : Value} {xs : List Value}, W1.ownsRow base t size u n xs → 118 ≠ t → t ≠ 172 → w9.ownsRow base t size u n xs := fun {base size n t u xs} hr h1 h2 => ownsRow_blk hr (fun b hb => nb9 b (ownsRow_lt hr hb).2 (ownsRow_neC hr hfv1 h2 hb) (fun e => rowIs_type e1.pm.cells h1 hr (e ▸ hb)))
  have rw9 : ∀ {g : Nat} {c : List Int}, Rw W1 g c → Rw w9 g c := fun {g c} hr => hr.block (nb9 g hr.lt (hr.neown hfv1 (by decide)) (hr.nerow e1.pm.cells (by decide)))
  have pm9 : Pm S' w9 pb vb kb bk tv v8 lv' P' := by
    obtain ⟨es, ck, m1⟩ := e1.pm.vars.lt
    obtain ⟨es', ck', m2⟩ := e1.pm.known.lt
    obtain ⟨ls, r1, r2, r3⟩ := e1.pm.rows
    refine ⟨hw9, e1.pm.vars.keep (nb9 vb (Array.getElem?_eq_some_iff.1 m1).1 (down_map hfv1 m1) (drow_map e1.pm.cells m1)), e1.pm.known.keep (nb9 kb (Array.getElem?_eq_some_iff.1 m2).1 (down_map hfv1 m2) (drow_map e1.pm.cells m2)), e1.pm.vk, fun k hk => Nat.lt_of_lt_of_le (e1.pm.lt k hk) z19, ls, own9 r1 (by decide) (by decide), r2, fun i c hi => ?_⟩
    obtain ⟨g, cap, q1, q0, q2⟩ := r3 i c hi
    exact ⟨g, cap, q1, q0, rw9 q2⟩
  have row9 : w9.ownsRow B 172 6 v8 (gs.length + 1) (gs.flatMap sxL ++ sxL ⟨op, x, y, ka, kn, kc, v, .slice ca cs.length cc⟩) := ownsRow_blk hown (fun b hb => K9.block b (ownsRow_lt hown hb).2 (fun e => hp8 (e ▸ hb)))
  have KQ : Kept (Dq pb vb kb lv fv) w w9 := ((e.kept.mono (T := Dq pb vb kb lv fv) (fun k _ e => Or.inl e)).under hB1).far (Kept.far (D := Dq pb vb kb lv fv) (Kept.grown (Kept.refl _ W1) hgrow (fun k e => Or.inr e)) K9 (fun k hk => Or.inl (Or.inl (Or.inl hk)))) (fun k hk => Or.inl hk)
  have hDq : ∀ k, Dq pb vb kb lv' v8 k → Dq pb vb kb lv fv k ∨ w.heap.size ≤ k := by
    rintro k ((e2 | e2 | e2 | e2) | e2)
    · exact Or.inl (Or.inl (Or.inl e2))
    · exact Or.inl (Or.inl (Or.inr (Or.inl e2)))
    · exact Or.inl (Or.inl (Or.inr (Or.inr (Or.inl e2))))
    · rcases hat with a | a
      · exact Or.inl (Or.inl (Or.inr (Or.inr (Or.inr (a ▸ e2)))))
      · exact Or.inr (a k e2)
    · rcases hat8 with a | a
      · exact Or.inl (Or.inr (a ▸ e2))
      · exact Or.inr (Nat.le_trans (Nat.le_trans e.kept.size hB1.size) (a k e2))
  refine ⟨pm9, fun k hk => (hDq k hk).elim (h.low k) (fun e => Nat.le_trans hBw e), by rw [List.flatMap_append, List.length_append]; simpa using row9, by simp [h.len], fun W' K' => ?_⟩
  have KW : Kept (Dq pb vb kb lv fv) w W' := KQ.far K' hDq
  obtain ⟨o1, o2⟩ := h.parts W' KW
  refine ⟨fun n fm g hn hg => ?_, o2⟩
  by_cases hnl : n < fs.length
  · rw [List.getElem?_append_left hnl] at hn
    rw [List.getElem?_append_left (by rw [h.len]; exact hnl)] at hg
    exact o1 n fm g hn hg
  · rw [List.getElem?_append_right (by omega)] at hn
    rw [List.getElem?_append_right (by rw [h.len]; omega), h.len] at hg
    have hn0 : n - fs.length = 0 := by
      have := (List.getElem?_eq_some_iff.1 hn).1
      simp at this
      omega
    rw [hn0] at hn hg
    cases hn
    cases hg
    have ats9 := own9 e1.ats (by decide) (by decide)
    have row9c := own9 e1.row (by decide) (by decide)
    have ne8 : ∀ {base size n : Nat} {t : TypeId} {u : Value} {xs : List Value}, w9.ownsRow base t size u n xs → t ≠ 172 → ∀ k, u.ownBlock = some k → v8.ownBlock ≠ some k := fun hr ht k hk => ownsRow_neC hr row9 ht hk
    have own' : ∀ {base size n : Nat} {t : TypeId} {u : Value} {xs : List Value}, w9.ownsRow base t size u n xs → t ≠ 172 → (∀ k, u.ownBlock = some k → ¬ PD pb vb kb lv' k) → W'.ownsRow base t size u n xs := fun hr ht hd => ownsRow_blk hr (fun b hb => K'.block b (ownsRow_lt hr hb).2 (fun e => e.elim (hd b hb) (ne8 hr ht b hb)))
    refine ⟨f, hv W' KW, ⟨hsz, hRF⟩, fun _ => rfl, PsAt.of_row (own' ats9 (by decide) (fun k hk => pm9.pdne ats9 (by decide) (by decide) hk)), ca, cc, rfl, ?_⟩
    have rowW : W'.ownsRow w.heap.size 39 1 (.slice ca cs.length cc) rs.length rs := own' row9c (by decide) (fun k hk => by
      obtain ⟨es, ck, m1⟩ := pm9.vars.lt
      obtain ⟨es', ck', m2⟩ := pm9.known.lt
      rintro (e2 | e2 | e2 | e2)
      · exact rowIs_type pm9.cells (by decide) row9c (e2 ▸ hk)
      · exact down_map row9c m1 (e2 ▸ hk)
      · exact down_map row9c m2 (e2 ▸ hk)
      · exact e.lvc k hk e2)
    have rowV := rowW
    rw [e.dst.1] at rowV
    have hrl := e.dst.1
    rcases id rowW.2 with ⟨e2, h0⟩ | ⟨g, cap, cur, e2, _⟩
    · exact Or.inl (List.eq_nil_of_length_eq_zero (by rw [← e.dst.1]; exact h0))
    · injection e2 with e3 e4 e5
      subst e3
      refine Or.inr ⟨g, 0, rfl, fun i c hi => ?_⟩
      change cs[i]? = some c at hi
      obtain ⟨g2, cap2, q1, q2, q3, q4⟩ := e1.cls i c hi
      have r9 := rw9 q4
      refine ⟨_, cap2, by rw [Nat.zero_add, World.ownsRow.cellAt (n := cs.length) (size := 1) rowV i (by have := (List.getElem?_eq_some_iff.1 hi).1; omega)]; exact q1, (r9.block (K'.block g2 r9.lt (fun e3 => e3.elim (Rw.pdne pm9 r9) (r9.neown row9 (by decide))))).cls⟩
theorem cell_six (w : World) (a b c d e f : Value) (ty : TypeId) : ∀ j u, [a, b, c, d, e, f][j]? = some u → (w.alloc (.cells #[a, b, c, d, e, f] ty)).cell? ((⟨w.heap.size, 0, none⟩ : Addr).add j) = some u := by
  intro j u hj
  have hn := made_row w #[a, b, c, d, e, f] ty
  have hjl := (List.getElem?_eq_some_iff.1 hj).1
  rw [Addr.add_lit, Nat.zero_add, hn.cell (i := j) (by simpa using hjl)]
  simp only [List.getElem?_toArray, hj, Option.getD_some]
theorem infoFmD : (Tryz.prog.info? 172).map (fun i => (i.zero, i.size, i.bytes)) = some (some (.agg #[.int .i64 0, .int .i64 0, .int .i64 0, .slice none 0 0, .slice none 0 0, .slice none 0 0]), 6, 96) := by kernel_rfl
end Go.Proofs.YtlehlgipbhfioaaGreat

namespace Go.Proofs.YtlehlgipbhfioaaGreat
open Go.RowKit Go.Maps

theorem ps_at {ps : List (Int × Int)} {i : Nat} {p : Int × Int} (h : ps[i]? = some p) : (pairC ps)[i * 2]? = some (.int .i64 p.1) ∧ (pairC ps)[i * 2 + 1]? = some (.int .i64 p.2) := by
  induction ps generalizing i with
  | nil => simp at h
  | cons q ps ih =>
    cases i with
    | zero =>
      simp at h
      subst h
      exact ⟨rfl, rfl⟩
    | succ i =>
      obtain ⟨h1, h2⟩ := ih (by simpa using h)
      rw [show (i + 1) * 2 = i * 2 + 2 by omega]
      exact ⟨h1, h2⟩
theorem rowP_at {l : List Pr} {i : Nat} {p : Pr} (h : l[i]? = some p) : (rowP l)[i * 2]? = some (.int .i64 (p.1 : Int)) ∧ (rowP l)[i * 2 + 1]? = some (.int .i64 (p.2 : Int)) := by
  induction l generalizing i with
  | nil => simp at h
  | cons q l ih =>
    cases i with
    | zero =>
      simp at h
      subst h
      exact ⟨rfl, rfl⟩
    | succ i =>
      obtain ⟨h1, h2⟩ := ih (by simpa using h)
      rw [show (i + 1) * 2 = i * 2 + 2 by omega]
      exact ⟨h1, h2⟩
/-- The cells of an element of a row of pairs of one's own. -/
theorem own_two {W : World} {base n : Nat} {v : Value} {xs : List Value} (h : W.ownsRow base 34 2 v n xs) {i : Nat} {a b : Value} (h1 : xs[i * 2]? = some a) (h2 : xs[i * 2 + 1]? = some b) : ∃ g c, v = .slice (some ⟨g, 0, none⟩) n c ∧ W.cell? ⟨g, i * 2, none⟩ = some a ∧ W.cell? ⟨g, i * 2 + 1, none⟩ = some b := by
  have hl := h.1
  have hi := (List.getElem?_eq_some_iff.1 h2).1
  rcases id h.2 with ⟨e, h0⟩ | ⟨g, cap, cur, e, _⟩
  · rw [h0] at hl; omega
  · subst e
    exact ⟨g, cap, rfl, by rw [h.cellAt (i * 2) (by omega)]; exact h1, by rw [h.cellAt (i * 2 + 1) (by omega)]; exact h2⟩
theorem own_one {W : World} {base n : Nat} {t : TypeId} {v : Value} {xs : List Value} (h : W.ownsRow base t 1 v n xs) {i : Nat} {a : Value} (h1 : xs[i]? = some a) : ∃ g c, v = .slice (some ⟨g, 0, none⟩) n c ∧ W.cell? ⟨g, i, none⟩ = some a := by
  have hl := h.1
  have hi := (List.getElem?_eq_some_iff.1 h1).1
  rcases id h.2 with ⟨e, h0⟩ | ⟨g, cap, cur, e, _⟩
  · rw [h0] at hl; omega
  · subst e
    exact ⟨g, cap, rfl, by rw [h.cellAt i (by omega)]; exact h1⟩

theorem cell_twoG (w : World) {g : Nat} (hg : w.heap.size = g) (a b : Value) (ty : TypeId) : ∀ j u, [a, b][j]? = some u → (w.alloc (.cells #[a, b] ty)).cell? ((⟨g, 0, none⟩ : Addr).add j) = some u := by
  subst hg
  exact cell_two w a b ty

set_option maxRecDepth 100000 in
set_option maxHeartbeats 4000000 in
theorem dadd_in (Φ : World → Prop) (B : Nat) (S : Nat → Prop) (w : World) (pb vb kb : Nat) (bk tv fv lv : Value) (P : Pb) (N : Nat) (fs : List Fm) (gs : List Sx) (h : Np Φ B S w pb vb kb bk tv fv lv P N fs gs) (hBw : B ≤ w.heap.size) (op x y : Int) (ka : Option Addr) (kn kc : Nat) (f : Fo) (hv : Stab (Dq pb vb kb lv fv) w fun W => FIs W (.agg #[.int .i64 op, .int .i64 x, .int .i64 y, .slice ka kn kc]) f)
    (hwf : WfF f) (hsz : szF f ≤ 1000) (hRF : RF f) (hpr : ∀ p ∈ ats (eqF f), (0 ≤ p.1 ∧ p.1 ≤ 1000000) ∧ 0 ≤ p.2 ∧ p.2 ≤ 1000000) (hvq : VqP P) (hsm : P.lemmas.length ≤ 1000000 ∧ P.count ≤ 100000 ∧ P.vars.length ≤ 100000) (hgl : gs.length ≤ 1000000) :
    Calls Tryz.prog 43 #[.pointer (some ⟨pb, 0, none⟩), .agg #[.int .i64 op, .int .i64 x, .int .i64 y, .slice ka kn kc]] w fun e w' => e = .returned (.tuple #[]) ∧ w.heap.size ≤ w'.heap.size ∧ ∃ S' fv' lv' gs', Np Φ B S' w' pb vb kb bk tv fv' lv' (P.addF f) N (fs ++ [fmOf N P f]) gs' := by
  obtain ⟨hcs, hal, hn1, hcl⟩ := csN_ok hwf hsz
  obtain ⟨n, hn⟩ : ∃ n, (tseN f).2.1 = n := ⟨_, rfl⟩
  have hB0 : Below w.heap.size w (w.alloc (.cells #[.int .i64 op, .int .i64 x, .int .i64 y, .slice ka kn kc] 36)) := (Below.refl _ _).alloc (Nat.le_refl _) _
  have K0 : Kept (Dq pb vb kb lv fv) w (w.alloc (.cells #[.int .i64 op, .int .i64 x, .int .i64 y, .slice ka kn kc] 36)) := (Kept.refl _ w).alloc _
  have CL := ClauseG_in (w.alloc (.cells #[.int .i64 op, .int .i64 x, .int .i64 y, .slice ka kn kc] 36)) _ f (hv _ K0) hwf (by omega) hRF _ rfl (by omega) (tseN f) rfl
  change Calls _ _ _ _ (fun e w' => ∃ ca cc, e = .returned (.tuple #[.slice ca (csN f).length cc, .int .i64 ((tseN f).2.1 : Int)]) ∧ Cl2 w' ca (csN f) ∧ ClOwn _ w' (.slice ca (csN f).length cc) (csN f) ∧ _) at CL
  obtain ⟨cl, hcll⟩ : ∃ k, (csN f).length = k := ⟨_, rfl⟩
  rw [hn, hcll] at CL
  rw [hcll] at hcl
  have HCL : Hid _ := CL
  have HCN : Hid _ := hcll
  clear hcll
  have HH : Hid (_ ∧ _ ∧ _ ∧ _ ∧ _ ∧ _ ∧ _) := And.intro h (And.intro hv (And.intro hpr (And.intro hvq (And.intro hsm (And.intro hcs (And.intro hwf (And.intro hRF hn)))))))
  have HB0 : Hid _ := hB0
  have A0 := made_row w #[.int .i64 op, .int .i64 x, .int .i64 y, .slice ka kn kc] 36
  have y0 := A0.cell (i := 0) (by simp)
  have y1 := A0.cell (i := 1) (by simp)
  have y2 := A0.cell (i := 2) (by simp)
  have y3 := A0.cell (i := 3) (by simp)
  clear h hv hpr hvq hcs hwf hRF hB0 K0 CL A0
  rw [hn] at hal hn1
  clear hn
  obtain ⟨al, hall⟩ : ∃ a, (ats (eqF f)).length = a := ⟨_, rfl⟩
  rw [hall] at hal
  have HAL : Hid _ := hall
  clear hall
  have hwn : IntKind.i64.wrap ((n : Int) + 1) = (n : Int) + 1 := wrap_nat1 (by omega)
  go_enter Tryz.func43, Tryz.ntmps43
  go_wp2_with (first | (go_at_call 77; refine Calls.mono HCL.out ?_; rintro e w1 ⟨ca, cc, rfl, _, C1, B1⟩; refine Aside.out ?_))
  delta Aside
  obtain ⟨rs, r1, r2, r3⟩ := C1
  obtain ⟨nb, hnb⟩ : ∃ b, w1.heap.size = b := ⟨_, rfl⟩
  obtain ⟨w2, hw2⟩ : ∃ w2, w1.alloc (.cells (List.replicate (n + 1) (.int .i64 0)).toArray 3) = w2 := ⟨_, rfl⟩
  have MK : (Instr.makeSlice 39 (.int .i64 ((n : Int) + 1)) (.int .i64 ((n : Int) + 1))).run Tryz.prog w1 = .ok (.slice (some ⟨nb, 0, none⟩) (n + 1) (n + 1)) w2 := by
    have := make_intsq w1 (n + 1) (by omega)
    rw [hnb, hw2] at this
    simpa using this
  have hB1 : Below w.heap.size w w1 := HB0.out.trans (B1.mono HB0.out.size)
  have hB2 : Below w1.heap.size w1 w2 := by rw [← hw2]; exact (Below.refl _ _).alloc (Nat.le_refl _) _
  have hB12 := hB1.trans (hB2.mono hB1.size)
  have AT := atomsF_in w2 _ f (HH.out.2.1 _ ((Kept.refl _ w).under hB12)) (by omega) HH.out.2.2.2.2.2.2.2.1
  rw [HAL.out] at AT
  have g1 : ∀ {a : Addr} {u : Value}, (w.alloc (.cells #[.int .i64 op, .int .i64 x, .int .i64 y, .slice ka kn kc] 36)).cell? a = some u → w2.cell? a = some u := fun hc => ((B1.trans (hB2.mono B1.size)).cell (World.block_lt_of_cell? _ _ hc)).trans hc
  have z0 := g1 y0
  have z1 := g1 y1
  have z2 := g1 y2
  have z3 := g1 y3
  have hF0 : AdF w.heap.size nb w1 op x y (.slice ka kn kc) (.slice ca cl cc) rs (csN f) (.slice none 0 0) [] := by
    refine ⟨(made_row w #[.int .i64 op, .int .i64 x, .int .i64 y, .slice ka kn kc] 36).of_block (B1.block _ (by simp)) |>.congr (fun j hj => ?_), row_low r1 (by simp), r2, fun i c hi => ?_, ⟨rfl, Or.inl ⟨rfl, rfl⟩⟩⟩
    · have : j = 0 ∨ j = 1 ∨ j = 2 ∨ j = 3 := by simp at hj; omega
      rcases this with rfl | rfl | rfl | rfl <;> rfl
    · obtain ⟨g, cap, q1, q2, q3⟩ := r3 i c hi
      exact ⟨g, cap, q1, Nat.le_trans (by simp) q2, by have := q3.lt; omega, q3⟩
  have HF0 : Hid (_ ∧ _ ∧ _ ∧ _ ∧ _) := And.intro hF0 (And.intro hB1 (And.intro hnb (And.intro hB2 hw2)))
  clear HCL r1 r2 r3 B1 hB1 hB2 hB12 y0 y1 y2 y3 g1 hnb hF0 hw2
  apply_assumption
  go_wp2_with (first | (go_at_call 78; refine AT.mono ?_; rintro e w4 ⟨u, rfl, R4, B4⟩; obtain ⟨ua, uc, rfl⟩ := ownsRow_form R4; refine Aside.out ?_))
  delta Aside
  have hF4 : AdF w.heap.size nb w4 op x y (.slice ka kn kc) (.slice ca cl cc) rs (csN f) (.slice ua al uc) (ats (eqF f)) := by
    obtain ⟨f1, f2, f3, f4, f5⟩ := HF0.out
    have h14 : Below w1.heap.size w1 w4 := f4.trans (B4.mono f4.size)
    refine ⟨f1.box.of_block (h14.block _ f1.box.lt), ownsRow_below f1.row h14, f1.dst, fun i c hi => ?_, ?_⟩
    · obtain ⟨g, cap, q1, q2, q3, q4⟩ := f1.cls i c hi
      exact ⟨g, cap, q1, q2, q3, q4.block (h14.block g q4.lt)⟩
    · rw [HAL.out]
      exact row_low R4 (by have := f2.size; have := f4.size; omega)
  have hA4 : AdI S w4 S w4 pb vb kb bk tv fv lv lv (Pb.names ((atsN f).take 0) P).2 nb (nmA P (atsN f) n 0) (.slice none 0 0) ((atsN f).take 0) := by
    have h24 := B4
    obtain ⟨f1, f2, f3, f4, f5⟩ := HF0.out
    have h14 : Below w1.heap.size w1 w4 := f4.trans (B4.mono f4.size)
    refine ⟨HH.out.1.pm.below (f2.trans (h14.mono f2.size)), fun k hk => Or.inl hk, Kept.refl _ _, Or.inl rfl, ?_, ⟨rfl, Or.inl ⟨rfl, rfl⟩⟩⟩
    have e1 : nmA P (atsN f) n 0 = List.replicate (n + 1) 0 := by
      unfold nmA
      rw [List.take_zero, Nat.sub_zero, List.replicate_succ]
      rfl
    have e2 : w2.heap[nb]? = some (.cells (List.replicate (n + 1) (.int .i64 0)).toArray 3) := by rw [← f3, ← f5]; exact heap_alloc_new _ _
    show w4.heap[nb]? = _
    rw [B4.block nb (by rw [← f3, ← f5]; simp), e2, e1]
    simp [i64]
  have hnb4 : nb < w4.heap.size ∧ w.heap.size < nb := by
    obtain ⟨f1, f2, f3, f4, f5⟩ := HF0.out
    have h1 := B4.size
    have h2 := f1.box.lt
    have h3 : w2.heap.size = w1.heap.size + 1 := by rw [← f5]; simp
    omega
  have HW : Hid (_ ∧ _) := And.intro hF4 (And.intro HH.out.1 HH.out.2)
  have HR4 : Hid _ := hA4.nms.rw
  have HB4 : Hid (Below w.heap.size w w4) := by
    obtain ⟨f1, f2, f3, f4, f5⟩ := HF0.out
    have h14 : Below w1.heap.size w1 w4 := f4.trans (B4.mono f4.size)
    exact f2.trans (h14.mono f2.size)
  have HA4 : Hid (∃ S' lv', AdI S w4 S' w4 pb vb kb bk tv fv lv lv' (Pb.names ((atsN f).take 0) P).2 nb (nmA P (atsN f) n 0) (.slice none 0 0) ((atsN f).take 0)) := ⟨S, lv, hA4⟩
  clear AT HF0 B4 R4 MK z0 z1 z2 z3 hF4 hA4 HH
  apply_assumption
  go_wp2_with fail
  obtain ⟨i0, hi0, hz0, hz1, hz2⟩ := info_parts infoPq
  go_loopw [6, 24] (fun t6 t24 W => ∃ i : Nat, i ≤ al ∧ t24 = .int .i64 (i : Int) ∧ Hid (∃ S' lv', AdI S w4 S' W pb vb kb bk tv fv lv lv' (Pb.names ((atsN f).take i) P).2 nb (nmA P (atsN f) n i) t6 ((atsN f).take i))) (fun _ t24 _ => al - (intOf t24).toNat)
  case atStart => exact ⟨0, Nat.zero_le _, rfl, HA4⟩
  case round =>
    obtain ⟨i, hi, rfl, HJ⟩ := hrel
    clear HA4
    by_cases hlt : i < al
    · have di : decide ((i : Int) < (al : Int)) = true := decide_eq_true (by omega)
      have hwi : IntKind.i64.wrap ((i : Int) + 1) = (i : Int) + 1 := wrap_nat1 (by omega)
      obtain ⟨S1, lv1, AD⟩ := HJ.out
      have hF1 : AdF w.heap.size nb wr op x y (.slice ka kn kc) (.slice ca cl cc) rs (csN f) (.slice ua al uc) (ats (eqF f)) := HW.out.1.keep HR4.out (fun k h1 h2 h3 => AD.kept.block k h2 (fun e => e.elim (fun e => absurd (HW.out.2.1.pm.pdlt e) (by omega)) h3))
      have hil : i < (ats (eqF f)).length := by rw [HAL.out]; exact hlt
      obtain ⟨x1, x2, hpx, hx1, hx2⟩ : ∃ x1 x2 : Nat, (ats (eqF f))[i]? = some ((x1 : Int), (x2 : Int)) ∧ x1 ≤ 1000000 ∧ x2 ≤ 1000000 := by
        have hp := HW.out.2.2.2.1 _ (List.getElem_mem hil)
        refine ⟨(ats (eqF f))[i].1.toNat, (ats (eqF f))[i].2.toNat, ?_, by omega, by omega⟩
        rw [List.getElem?_eq_getElem hil, Int.toNat_of_nonneg hp.1.1, Int.toNat_of_nonneg hp.2.1]
      have ham : (atsN f)[i]? = some (ordP x1 x2) := by
        unfold atsN
        rw [List.getElem?_map, hpx]
        rfl
      have hpr2 := hF1.pr
      rw [HAL.out] at hpr2
      obtain ⟨ub, uc', eu, q1, q2⟩ := own_two hpr2 (ps_at hpx).1 (ps_at hpx).2
      cases eu
      obtain ⟨hset, hnam⟩ := nmA_succ P (atsN f) ham (n := n) (by omega)
      have hlen : (nmA P (atsN f) n i).length = n + 1 := nmA_len P _ (by have := (List.getElem?_eq_some_iff.1 ham).1; omega) (by omega)
      obtain ⟨b1, b2, b3, b4, b5, b6⟩ := names_small ((atsN f).take i) P HW.out.2.2.2.2.1
      have hsm2 := HW.out.2.2.2.2.2.1
      have htl : ((atsN f).take i).length = i := by rw [List.length_take]; have := (List.getElem?_eq_some_iff.1 ham).1; omega
      have hts : (atsN f).take (i + 1) = (atsN f).take i ++ [ordP x1 x2] := by rw [List.take_add_one, ham]; rfl
      have ORD := ordered_in (wr.alloc (.cells #[.int .i64 (x1 : Int), .int .i64 (x2 : Int)] 34)) x1 x2
      rw [ordP_1, ordP_2] at ORD
      have hpo : PrOk (ordP x1 x2) := by unfold PrOk ordP; simp only; omega
      generalize ordP x1 x2 = pr at *
      obtain ⟨va, vc, hva⟩ := ownsRow_form AD.ats
      subst hva
      rw [htl] at AD ⊢
      have hB3 : Below wr.heap.size wr ((wr.alloc (.cells #[.int .i64 (x1 : Int), .int .i64 (x2 : Int)] 34)).alloc (.cells #[.int .i64 (pr.1 : Int), .int .i64 (pr.2 : Int)] 34)) := ((Below.refl _ _).alloc (Nat.le_refl _) _).alloc (by simp) _
      have AD3 := AD.below hB3
      have HAD : Hid _ := AD3
      have hz4 := AD3.kept.size
      have row3 := AD3.ats
      rw [htl] at row3
      have HPL : Hid (_ ∧ _ ∧ _ ∧ _ ∧ _ ∧ _ ∧ _) := And.intro hset (And.intro hnam (And.intro hlen (And.intro b1 (And.intro (And.intro b4 (And.intro b5 b6)) (And.intro htl hts)))))
      clear hset hnam hlen b1 b2 b3 b4 b5 b6 hts AD AD3 hF1 hpr2 HJ ham hpx
      go_wp2_with (first | (go_at_call 79; refine ORD.mono ?_; rintro e w5 ⟨rfl, rfl⟩) | (at_builtin; refine Aside.out ?_))
      delta Aside
      refine wpList_append_own_at _ rfl _ _ 109 rfl w4.heap.size 34 i0 _ 2 16 Tryz.underlying109 hi0 hz0 hz1 hz2 rfl (by decide) _ _ _ rfl (row3.alloc _) ⟨_, 0, none⟩ 1 1 [.int .i64 (pr.1 : Int), .int .i64 (pr.2 : Int)] rfl rfl (cell_twoG _ (by simp) _ _ _) (by simp [Value.oneCell']) (by unfold maxLen; omega) (by omega) (Nat.le_trans hz4 (by simp)) ?_
      intro v8 w8 hown8 hgrow8 _ hat8
      have hown8' : w8.ownsRow w4.heap.size 34 2 v8 ((atsN f).take (i + 1)).length (rowP ((atsN f).take (i + 1))) := by
        rw [HPL.out.2.2.2.2.2.2, rowP_app, List.length_append, htl]
        exact hown8
      have AD8 := HAD.out.push ((Below.refl _ _).alloc (Nat.le_refl _) _) hown8' hgrow8
      have hil8 : ((atsN f).take (i + 1))[i]? = some pr := by rw [HPL.out.2.2.2.2.2.2, List.getElem?_append_right (by omega), htl, Nat.sub_self]; rfl
      have htl8 : ((atsN f).take (i + 1)).length = i + 1 := by rw [HPL.out.2.2.2.2.2.2, List.length_append, htl]; rfl
      obtain ⟨g8, c8, e8, p1, p2⟩ := own_two AD8.ats (rowP_at hil8).1 (rowP_at hil8).2
      rw [htl8] at e8
      subst e8
      have VA := dvar_in S1 w8 pb vb kb bk tv fv lv1 _ AD8.pm (by have := HPL.out.2.2.2.2.1.2.2; rw [htl] at this; omega) (by have := HPL.out.2.2.2.2.1.1; rw [htl] at this; omega) (by have := HPL.out.2.2.2.2.1.2.1; rw [htl] at this; omega) pr hpo
      have HAD8 : Hid _ := AD8
      clear HAD hown8 hown8' hgrow8 hat8 AD8 row3 ORD q1 q2 hB3 hil8
      go_wp2_with (first | (go_at_call 80; refine VA.mono ?_; rintro e w9 ⟨rfl, S2, lv2, X2⟩; refine Aside.out ?_))
      delta Aside
      have AD9 := HAD8.out.step X2
      have hS9 : ∀ k, S k → k ≠ nb := fun k hk => by have := HW.out.2.1.pm.lt k hk; omega
      have hin : i + 1 < (nmA P (atsN f) n i).length := by rw [HPL.out.2.2.1]; omega
      have cn := AD9.nms.cell (List.getElem?_eq_getElem hin)
      have fn := AD9.nms.frozen (i + 1)
      have AD10 := AD9.name hnb4.1 hS9 (i + 1) ((Pb.names ((atsN f).take i) P).2.vari pr).1
      rw [HPL.out.1, ← HPL.out.2.1] at AD10
      have HAD10 : Hid (∃ S' lv', AdI S w4 S' (w9.setCell ⟨nb, i + 1, none⟩ (.int .i64 (((Pb.names ((atsN f).take i) P).2.vari pr).1 : Int))) pb vb kb bk tv fv lv lv' (Pb.names ((atsN f).take (i + 1)) P).2 nb (nmA P (atsN f) n (i + 1)) (.slice (some ⟨g8, 0, none⟩) (i + 1) c8) ((atsN f).take (i + 1))) := ⟨S2, lv2, AD10⟩
      generalize (nmA P (atsN f) n i)[i + 1] = zz at *
      have hin1 : i + 1 < n + 1 := by omega
      have hin2 : decide ((i : Int) + 1 < (n : Int) + 1) = true := decide_eq_true (by omega)
      clear AD9 AD10 X2 HAD8 VA p1 p2 hin
      apply_assumption
      go_wp2_with fail
      exact ⟨⟨i + 1, hlt, by simp, HAD10⟩, by simp [intOf]; omega⟩
    · have di : decide ((i : Int) < (al : Int)) = false := decide_eq_false (by omega)
      obtain rfl : i = al := by omega
      obtain ⟨S1, lv1, AD⟩ := HJ.out
      have haml : (atsN f).length = i := by unfold atsN; rw [List.length_map]; exact HAL.out
      have hta : (atsN f).take i = atsN f := List.take_of_length_le (by omega)
      obtain ⟨va, vc, hva⟩ := ownsRow_form AD.ats
      subst hva
      rw [hta, haml] at AD
      rw [hta, haml]
      have e0 := nmB_start P (atsN f) n
      rw [haml] at e0
      rw [e0] at AD
      have HB0 : Hid (AdI S w4 S1 wr pb vb kb bk tv fv lv lv1 { (Pb.names (atsN f) P).2 with count := (Pb.names (atsN f) P).2.count + 0 } nb (nmB P (atsN f) n 0) (.slice va i vc) (atsN f)) := AD
      have HML : Hid _ := haml
      have hwal : IntKind.i64.wrap ((i : Int) + 1) = (i : Int) + 1 := wrap_nat1 (by omega)
      clear AD e0 hta haml HJ hi
      go_wp2_with fail
      go_loopw [10] (fun t10 W => ∃ j : Nat, i + j ≤ n ∧ t10 = .int .i64 ((i + 1 + j : Nat) : Int) ∧ Hid (AdI S w4 S1 W pb vb kb bk tv fv lv lv1 { (Pb.names (atsN f) P).2 with count := (Pb.names (atsN f) P).2.count + j } nb (nmB P (atsN f) n j) (.slice va i vc) (atsN f))) (fun t10 _ => n + 1 - (intOf t10).toNat)
      case atStart => exact ⟨0, by omega, by simp, HB0⟩
      case round =>
        obtain ⟨j, hj, rfl, HK⟩ := hrel
        clear HB0
        by_cases hjl : i + j < n
        · have dj : decide (((i + 1 + j : Nat) : Int) ≤ (n : Int)) = true := decide_eq_true (by omega)
          have hwj : IntKind.i64.wrap (((i + 1 + j : Nat) : Int) + 1) = ((i + 1 + (j + 1) : Nat) : Int) := by rw [wrap_nat1 (by omega)]; omega
          obtain ⟨b1, b2, b3, b4, b5, b6⟩ := names_small (atsN f) P HW.out.2.2.2.2.1
          have hcs := HW.out.2.2.2.2.2.1.2.1
          rw [HML.out] at b4
          have AD := HK.out
          have c4 := AD.pm.cells.cell (i := 4) (by omega)
          have f4 := AD.pm.cells.frozen 4
          simp only [pmC] at c4
          have hwc : IntKind.i64.wrap ((((Pb.names (atsN f) P).2.count + j : Nat) : Int) + 1) = (((Pb.names (atsN f) P).2.count + (j + 1) : Nat) : Int) := by rw [wrap_nat1 (by omega)]; omega
          have AD1 := AD.step (AD.pm.count ((Pb.names (atsN f) P).2.count + (j + 1)))
          have hS9 : ∀ k, S k → k ≠ nb := fun k hk => by have := HW.out.2.1.pm.lt k hk; omega
          have hsu := nmB_succ P (atsN f) (n := n) (j := j) (by rw [HML.out]; exact hjl)
          have hln := nmB_len P (atsN f) (n := n) (j := j) (by rw [HML.out]; exact hj)
          rw [HML.out] at hsu
          have hin : i + 1 + j < (nmB P (atsN f) n j).length := by rw [hln]; omega
          have AD2 := AD1.name hnb4.1 hS9 (i + 1 + j) ((Pb.names (atsN f) P).2.count + 1 + j)
          rw [hsu] at AD2
          have cn := AD1.nms.cell (List.getElem?_eq_getElem hin)
          have fn := AD1.nms.frozen (i + 1 + j)
          have c4b := AD1.pm.cells.cell (i := 4) (by omega)
          simp only [pmC] at c4b
          generalize (nmB P (atsN f) n j)[i + 1 + j] = zz at *
          have ecc : (Pb.names (atsN f) P).2.count + (j + 1) = (Pb.names (atsN f) P).2.count + 1 + j := by omega
          rw [ecc] at AD2 c4b hwc cn fn
          have HF : Hid (AdI S w4 S1 ((wr.setCell ⟨pb, 4, none⟩ (.int .i64 (((Pb.names (atsN f) P).2.count + 1 + j : Nat) : Int))).setCell ⟨nb, i + 1 + j, none⟩ (.int .i64 (((Pb.names (atsN f) P).2.count + 1 + j : Nat) : Int))) pb vb kb bk tv fv lv lv1 { (Pb.names (atsN f) P).2 with count := (Pb.names (atsN f) P).2.count + (j + 1) } nb (nmB P (atsN f) n (j + 1)) (.slice va i vc) (atsN f)) := by
            rw [ecc]
            exact AD2
          clear AD AD1 AD2 HK b1 b2 b3 b4 b5 b6 hcs hsu hln hin ecc
          have hin1 : i + 1 + j < n + 1 := by omega
          generalize hcq : (Pb.names (atsN f) P).2.count + j = cq at *
          generalize hcr : (Pb.names (atsN f) P).2.count + 1 + j = cr at *
          clear hcq hcr
          obtain ⟨k, hk⟩ : ∃ k, i + 1 + j = k := ⟨_, rfl⟩
          have hk2 : i + 1 + (j + 1) = k + 1 := by omega
          have HK2 : Hid (_ ∧ _ ∧ _) := And.intro hk (And.intro hk2 hjl)
          rw [hk] at hin1 dj hwj cn fn HF
          rw [hk2] at hwj
          simp only [hk]
          clear hk hk2 hjl hj
          go_wp2_with fail
          refine ⟨⟨j + 1, by have := HK2.out.2.2; omega, ?_, HF⟩, ?_⟩
          · rw [HK2.out.2.1]
            simp
          · have h1 := HK2.out.1
            have h2 := HK2.out.2.2
            simp [intOf]
            omega
        · have dj : decide (((i + 1 + j : Nat) : Int) ≤ (n : Int)) = false := decide_eq_false (by omega)
          have hjn : j = n - i := by omega
          have HE : Hid (nmB P (atsN f) n j = nmsN P f ∧ ({ (Pb.names (atsN f) P).2 with count := (Pb.names (atsN f) P).2.count + j } : Pb) = P.addF f) := by
            have hnn := HW.out.2.2.2.2.2.2.2.2.2
            constructor
            · rw [← nmB_fin P f, hnn, HML.out, ← hjn]
            · unfold Pb.addF
              rw [hnn, HML.out, ← hjn]
          have hAe : Ae w S1 wr pb vb kb bk tv fv lv lv1 (P.addF f) nb (nmsN P f) (.slice va i vc) (atsN f) (.slice ca cl cc) rs (((csN f).take 0).map (fun c => c.map (renL (nmsN P f))) ++ (csN f).drop 0) op x y (.slice ka kn kc) := by
            have AD := HK.out
            rw [HE.out.1, HE.out.2] at AD
            have hF1 : AdF w.heap.size nb wr op x y (.slice ka kn kc) (.slice ca cl cc) rs (csN f) (.slice ua i uc) (ats (eqF f)) := HW.out.1.keep HR4.out (fun k h1 h2 h3 => AD.kept.block k h2 (fun e => e.elim (fun e => absurd (HW.out.2.1.pm.pdlt e) (by omega)) h3))
            rw [show ((csN f).take 0).map (fun c => c.map (renL (nmsN P f))) ++ (csN f).drop 0 = csN f by simp]
            refine ⟨AD.pm, fun j g m c hj hg => ?_, fun k hk e => ?_, ((Kept.refl (PD pb vb kb lv) w).under HB4.out).far AD.kept (fun k e => e.imp id (fun e => by omega)), AD.nms, row_low AD.ats HB4.out.size, hF1.box, hF1.row, hF1.dst, hF1.cls⟩
            · have hjl : j < (csN f).length := by rw [← hF1.dst.1]; exact (List.getElem?_eq_some_iff.1 hj).1
              obtain ⟨g2, cap2, q1, q2, q3, q4⟩ := HW.out.1.cls j _ (List.getElem?_eq_getElem hjl)
              rw [hj] at q1
              cases q1
              have hlt4 := q4.lt
              rcases AD.new g hg with e | e
              · have := HW.out.2.1.pm.lt g e
                omega
              · omega
            · have hk4 := ownsRow_lt HW.out.1.row hk
              rcases AD.at_ with e1 | e1
              · have := HW.out.2.1.pm.pdlt (k := k) (Or.inr (Or.inr (Or.inr (e1 ▸ e))))
                omega
              · have := e1 k e
                omega
          have hat : lv1.ownBlock = lv.ownBlock ∨ ∀ k, lv1.ownBlock = some k → w.heap.size ≤ k := HK.out.at_.imp id (fun e k hk => Nat.le_trans (by omega) (e k hk))
          have HAe : Hid _ := hAe
          have HAT : Hid _ := hat
          obtain ⟨k, hk⟩ : ∃ k, i + 1 + j = k := ⟨_, rfl⟩
          have dj2 : decide (k ≤ n) = false := decide_eq_false (by omega)
          have dj3 : n < k := by omega
          rw [hk] at dj
          simp only [hk]
          have hnl : (nmsN P f).length = n + 1 := by
            rw [← HE.out.1]
            exact nmB_len P (atsN f) (by rw [HML.out]; exact hj)
          have HNL : Hid _ := hnl
          clear hAe hat HE HK hjl hj hjn hk hnl
          go_wp2_with fail
          go_loopw [72] (fun t72 W => ∃ q : Nat, q ≤ cl ∧ t72 = .int .i64 (q : Int) ∧ Hid (Ae w S1 W pb vb kb bk tv fv lv lv1 (P.addF f) nb (nmsN P f) (.slice va i vc) (atsN f) (.slice ca cl cc) rs (((csN f).take q).map (fun c => c.map (renL (nmsN P f))) ++ (csN f).drop q) op x y (.slice ka kn kc))) (fun t72 _ => cl - (intOf t72).toNat)
          case atStart => exact ⟨0, Nat.zero_le _, rfl, HAe⟩
          case round =>
            obtain ⟨q, hq, rfl, HQ⟩ := hrel
            clear HAe
            by_cases hql : q < cl
            · have dq : decide ((q : Int) < (cl : Int)) = true := decide_eq_true (by omega)
              have hwq : IntKind.i64.wrap ((q : Int) + 1) = (q : Int) + 1 := wrap_nat1 (by omega)
              have hqc : q < (csN f).length := by rw [HCN.out]; exact hql
              have hge := List.getElem?_eq_getElem hqc
              have hok := HW.out.2.2.2.2.2.2.1 _ (List.getElem_mem hqc)
              have hmx : (((csN f).take q).map (fun c => c.map (renL (nmsN P f))) ++ (csN f).drop q)[q]? = some (csN f)[q] := by
                rw [List.getElem?_append_right (by simp; omega), List.getElem?_drop, List.length_map, List.length_take, Nat.min_eq_left (by omega), Nat.sub_self, Nat.add_zero]
                exact hge
              have hse : (((csN f).take q).map (fun c => c.map (renL (nmsN P f))) ++ (csN f).drop q).set q ((csN f)[q].map (renL (nmsN P f))) = ((csN f).take (q + 1)).map (fun c => c.map (renL (nmsN P f))) ++ (csN f).drop (q + 1) := by
                rw [List.set_append_right _ _ (by simp; omega), List.length_map, List.length_take, Nat.min_eq_left (by omega), Nat.sub_self, List.drop_eq_getElem_cons hqc, List.set_cons_zero, List.take_add_one, hge, Option.toList_some, List.map_append, List.append_assoc]
                rfl
              obtain ⟨g, cap, p1, p2, p3, p4⟩ := HQ.out.cls q _ hmx
              have hrow := HQ.out.row
              rw [HW.out.1.dst.1, HCN.out] at hrow
              obtain ⟨cg, cc', ecv, p5⟩ := own_one hrow p1
              cases ecv
              have RN := rename_in wr g cap _ p4 (by omega) nb (n + 1) (nmsN P f) (fun j m hj => HQ.out.nms.cell hj) p3 (fun x hx => by rw [HNL.out]; have := hok.2 x hx; rw [HW.out.2.2.2.2.2.2.2.2.2] at this; omega) (by rw [HNL.out]; omega) (nmsN_small HW.out.2.2.2.2.1 f HW.out.2.2.2.2.2.1.2.1 (by rw [HW.out.2.2.2.2.2.2.2.2.2]; omega) (by rw [HML.out]; omega))
              rw [HNL.out] at RN
              have HST : Hid (∀ W', Kept (fun k => k = g) wr W' → Rw W' g ((csN f)[q].map (renL (nmsN P f))) → Ae w S1 W' pb vb kb bk tv fv lv lv1 (P.addF f) nb (nmsN P f) (.slice va i vc) (atsN f) (.slice (some ⟨cg, 0, none⟩) cl cc) rs (((csN f).take (q + 1)).map (fun c => c.map (renL (nmsN P f))) ++ (csN f).drop (q + 1)) op x y (.slice ka kn kc)) := fun W' K hr => by
                rw [← hse]
                exact HQ.out.ren hmx p1 (by simp) K hr
              generalize (csN f)[q] = c at *
              generalize (c.map (renL (nmsN P f))) = c2 at *
              generalize c.length = cn at *
              clear HQ hge hok hmx hse p1 p2 p3 p4 hrow hqc
              go_wp2_with (first | (go_at_call 81; refine RN.mono ?_; rintro e w9 ⟨rfl, R9, K9⟩))
              exact ⟨⟨q + 1, hql, by simp, HST.out w9 K9 R9⟩, by simp [intOf]; omega⟩
            · have dq : decide ((q : Int) < (cl : Int)) = false := decide_eq_false (by omega)
              obtain rfl : q = cl := by omega
              have hlc : ((csN f).map (fun c => c.map (renL (nmsN P f)))).length = q := by rw [List.length_map]; exact HCN.out
              have hAe : Ae w S1 wr pb vb kb bk tv fv lv lv1 (P.addF f) nb (nmsN P f) (.slice va i vc) (atsN f) (.slice ca ((csN f).map (fun c => c.map (renL (nmsN P f)))).length cc) rs ((csN f).map (fun c => c.map (renL (nmsN P f)))) op x y (.slice ka kn kc) := by
                have := HQ.out
                rw [List.take_of_length_le (by rw [HCN.out]; exact Nat.le_refl _), List.drop_of_length_le (by rw [HCN.out]; exact Nat.le_refl _), List.append_nil] at this
                rw [hlc]
                exact this
              obtain ⟨fa, fc, hfv⟩ := ownsRow_form HW.out.2.1.row
              subst hfv
              have rowf : wr.ownsRow B 172 6 (.slice fa gs.length fc) gs.length (gs.flatMap sxL) := ownsRow_blk HW.out.2.1.row (fun b hb => hAe.kept.block b (ownsRow_lt HW.out.2.1.row hb).2 (HW.out.2.1.pm.pdne HW.out.2.1.row (by decide) (by decide) hb))
              have c2 := hAe.pm.cells.cell (i := 2) (by omega)
              simp only [pmC] at c2
              have c2a : ∀ O, (wr.alloc O).cell? ⟨pb, 2, none⟩ = some (.slice fa gs.length fc) := fun O => Lib.cell?_alloc_some _ c2
              have k0 := hAe.box.cell (i := 0) (by omega)
              have k1 := hAe.box.cell (i := 1) (by omega)
              have k2 := hAe.box.cell (i := 2) (by omega)
              have k3 := hAe.box.cell (i := 3) (by omega)
              simp only [boxQ] at k0 k1 k2 k3
              have hzr := hAe.kept.size
              have HAe2 : Hid _ := hAe
              have HLC : Hid _ := hlc
              obtain ⟨j0, hj0, hy0, hy1, hy2⟩ := info_parts infoFmD
              clear HQ hAe hlc hq
              obtain ⟨gn, hgn⟩ : ∃ k, gs.length = k := ⟨_, rfl⟩
              have HGN : Hid _ := hgn
              rw [hgn] at hgl rowf c2
              simp only [hgn] at c2a
              clear hgn
              have hBr : B ≤ wr.heap.size := Nat.le_trans hBw hzr
              have HPU : Hid (∀ (w8 : World) (v8 : Value), w8.ownsRow B 172 6 v8 (gn + 1) (gs.flatMap sxL ++ [.int .i64 op, .int .i64 x, .int .i64 y, .slice ka kn kc, .slice va i vc, .slice ca q cc]) → (wr.alloc (.cells #[.int .i64 op, .int .i64 x, .int .i64 y, .slice ka kn kc, .slice va i vc, .slice ca q cc] 172)).drew.grownBy w8 (Value.slice fa gn fc).ownBlock → (v8.ownBlock = (Value.slice fa gn fc).ownBlock ∨ ∀ k, v8.ownBlock = some k → (wr.alloc (.cells #[.int .i64 op, .int .i64 x, .int .i64 y, .slice ka kn kc, .slice va i vc, .slice ca q cc] 172)).drew.heap.size ≤ k) →
                  w8.cell? ⟨pb, 2, none⟩ = some (.slice fa gn fc) ∧ w8.frozen? ⟨pb, 2, none⟩ = false ∧ w.heap.size ≤ (w8.setCell ⟨pb, 2, none⟩ v8).heap.size ∧ ∃ S' fv' lv' gs', Np Φ B S' (w8.setCell ⟨pb, 2, none⟩ v8) pb vb kb bk tv fv' lv' (P.addF f) N (fs ++ [fmOf N P f]) gs') := fun w8 v8 o8 g8 l8 => by
                have hpush := HW.out.2.1.push (W1 := (wr.alloc (.cells #[.int .i64 op, .int .i64 x, .int .i64 y, .slice ka kn kc, .slice va i vc, .slice ca q cc] 172)).drew) (w8 := w8) (v8 := v8) hBw HW.out.2.2.1 (by omega) HW.out.2.2.2.2.2.2.2.2.1 HAe2.out HAT.out (below_ad wr _) (by rw [HGN.out, HLC.out]; exact o8) (by rw [HGN.out]; exact g8) (by rw [HGN.out]; exact l8)
                rw [HGN.out] at hpush
                exact ⟨hpush.1, hpush.2.1, Nat.le_trans hzr (Nat.le_trans (below_ad wr _).size (Nat.le_trans g8.size (Kept1.set (Kept.refl _ w8) 2 v8).size)), _, _, _, _, hpush.2.2⟩
              clear HW HAe2 HAT HR4 HB4 HML HNL HCN HLC HGN
              go_wp2_with fail
              go_region_law (first | (refine step_append_here rfl (.tmp 84) (.tmp 89) 115 rfl B 172 j0 _ 6 96 Tryz.underlying115 hj0 hy0 hy1 hy2 rfl (by decide) (.slice fa gn fc) gn (gs.flatMap sxL) (by rfl) (by exact World.ownsRow.alloc rowf _) ⟨wr.heap.size, 0, none⟩ 1 1 [.int .i64 op, .int .i64 x, .int .i64 y, .slice ka kn kc, .slice va i vc, .slice ca q cc] (by rfl) rfl (cell_six wr _ _ _ _ _ _ _) (by simp [Value.oneCell']) (by unfold maxLen; omega) (by omega) (by simp; omega) ?_; intro v8 w8 hown8 hgrow8 hloc8; obtain ⟨b8, k8, hv8⟩ := ownsRow_succ hown8; obtain ⟨d1, d2, d3, d4⟩ := HPU.out w8 v8 hown8 hgrow8 hloc8; have HF : Hid (_ ∧ _) := And.intro d3 d4; subst hv8; clear hown8 hgrow8 hloc8 d3 d4))
              all_goals
                try simp only [Act.put, List.getElem_toArray, List.getElem_cons_succ, List.getElem_cons_zero, List.setIfInBounds_toArray, List.set_cons_succ, List.set_cons_zero]
                go_wp2_with fail
                refine ⟨rfl, .tuple #[], by simp [results, Tryz.results43], rfl, HF.out.1, HF.out.2⟩
end Go.Proofs.YtlehlgipbhfioaaGreat

namespace Go.Proofs.YtlehlgipbhfioaaGreat
open Go.RowKit Go.Maps

/-- The terms so far, of a problem that is made. -/
structure Tl (w W : World) (pb vb kb : Nat) (bk tv : Value) (l : List Tm) (i : Nat) : Prop where
  pm : Pm (fun _ => False) W pb vb kb bk tv (.slice none 0 0) (.slice none 0 0) pb0
  ge : w.heap.size ≤ pb ∧ w.heap.size ≤ vb ∧ w.heap.size ≤ kb
  bel : Below w.heap.size w W
  row : ∃ xs, W.ownsRow w.heap.size 102 2 tv i xs ∧ ∀ (j : Nat) (t : Tm), j < i → l[j]? = some t → xs[j * 2]? = some (.string t.name) ∧ ∃ u, xs[j * 2 + 1]? = some u ∧ Stab (fun k => k = pb ∨ k = vb ∨ k = kb ∨ tv.ownBlock = some k) W (fun W' => NsAt W' u t.args)
theorem Tl.below {w W W' : World} {pb vb kb : Nat} {bk tv : Value} {l : List Tm} {i : Nat} (h : Tl w W pb vb kb bk tv l i) (hB : Below W.heap.size W W') : Tl w W' pb vb kb bk tv l i := by
  obtain ⟨xs, r1, r2⟩ := h.row
  refine ⟨h.pm.below hB, h.ge, h.bel.trans (hB.mono h.bel.size), xs, ownsRow_below r1 hB, fun j t hj ht => ?_⟩
  obtain ⟨q1, u, q2, q3⟩ := r2 j t hj ht
  exact ⟨q1, u, q2, q3.step ((Kept.refl _ W).under hB) (fun k e => Or.inl e)⟩
theorem Tl.push {w W W1 w8 : World} {pb vb kb : Nat} {bk tv v8 v : Value} {l : List Tm} {i : Nat} {t : Tm} (h : Tl w W pb vb kb bk tv l i) (ht : l[i]? = some t) (hB1 : Below W.heap.size W W1) {xs : List Value} (hx : W.ownsRow w.heap.size 102 2 tv i xs ∧ ∀ (j : Nat) (t : Tm), j < i → l[j]? = some t → xs[j * 2]? = some (.string t.name) ∧ ∃ u, xs[j * 2 + 1]? = some u ∧ Stab (fun k => k = pb ∨ k = vb ∨ k = kb ∨ tv.ownBlock = some k) W (fun W' => NsAt W' u t.args))
    {b0 : Nat} (ho : W1.ownsRow b0 3 1 v t.args.length (argC t.args)) (hown : w8.ownsRow w.heap.size 102 2 v8 (i + 1) (xs ++ [.string t.name, v])) (hgrow : W1.grownBy w8 tv.ownBlock) (hat8 : v8.ownBlock = tv.ownBlock ∨ ∀ k, v8.ownBlock = some k → W1.heap.size ≤ k) :
    w8.cell? ⟨pb, 1, none⟩ = some tv ∧ w8.frozen? ⟨pb, 1, none⟩ = false ∧ Tl w (w8.setCell ⟨pb, 1, none⟩ v8) pb vb kb bk v8 l (i + 1) := by
  have h1 := h.below hB1
  have htv1 := ownsRow_below hx.1 hB1
  have nb8 : ∀ k, k < W1.heap.size → tv.ownBlock ≠ some k → w8.heap[k]? = W1.heap[k]? := fun k hk hne => hgrow.block k hk (fun e => hne e.symm)
  have hp : tv.ownBlock ≠ some pb := rowIs_type h1.pm.cells (by decide) htv1
  have c8 : w8.rowIs pb 118 7 (pmC bk tv (.slice none 0 0) vb 0 (.slice none 0 0) kb) := h1.pm.cells.of_block (nb8 _ h1.pm.cells.lt hp)
  have hp8 : v8.ownBlock ≠ some pb := rowIs_type c8 (by decide) hown
  have K9 : Kept (fun k => k = pb) w8 (w8.setCell ⟨pb, 1, none⟩ v8) := Kept.setCell (S := fun k => k = pb) (Kept.refl _ w8) (p := ⟨pb, 1, none⟩) rfl v8
  refine ⟨c8.cell (i := 1) (by omega), c8.frozen 1, ?_⟩
  have hw9 : (w8.setCell ⟨pb, 1, none⟩ v8).rowIs pb 118 7 (pmC bk v8 (.slice none 0 0) vb 0 (.slice none 0 0) kb) := (c8.set 1 v8).congr (fun j hj => by
    unfold pmC
    by_cases e : j = 1
    · subst e; simp
    · rw [if_neg e]
      have : j = 0 ∨ j = 2 ∨ j = 3 ∨ j = 4 ∨ j = 5 ∨ j = 6 := by omega
      rcases this with rfl | rfl | rfl | rfl | rfl | rfl <;> rfl)
  generalize w8.setCell ⟨pb, 1, none⟩ v8 = w9 at *
  have z19 : W1.heap.size ≤ w9.heap.size := Nat.le_trans hgrow.size K9.size
  have nb9 : ∀ k, k < W1.heap.size → tv.ownBlock ≠ some k → k ≠ pb → w9.heap[k]? = W1.heap[k]? := fun k hk hne hn => (K9.block k (Nat.lt_of_lt_of_le hk hgrow.size) hn).trans (nb8 k hk hne)
  have pm9 : Pm (fun _ => False) w9 pb vb kb bk v8 (.slice none 0 0) (.slice none 0 0) pb0 := by
    obtain ⟨es, ck, m1⟩ := h1.pm.vars.lt
    obtain ⟨es', ck', m2⟩ := h1.pm.known.lt
    obtain ⟨ls, r1, r2, r3⟩ := h1.pm.rows
    refine ⟨hw9, h1.pm.vars.keep (nb9 vb (Array.getElem?_eq_some_iff.1 m1).1 (down_map htv1 m1) (drow_map h1.pm.cells m1)), h1.pm.known.keep (nb9 kb (Array.getElem?_eq_some_iff.1 m2).1 (down_map htv1 m2) (drow_map h1.pm.cells m2)), h1.pm.vk, fun k hk => hk.elim, ls, ownsRow_blk r1 (fun b hb => by cases hb), r2, fun i c hi => by simp [pb0] at hi⟩
  have row9 : w9.ownsRow w.heap.size 102 2 v8 (i + 1) (xs ++ [.string t.name, v]) := ownsRow_blk hown (fun b hb => K9.block b (ownsRow_lt hown hb).2 (fun e => hp8 (e ▸ hb)))
  have KQ : Kept (fun k => k = pb ∨ k = vb ∨ k = kb ∨ tv.ownBlock = some k) W w9 := ((Kept.refl (fun k => k = pb ∨ k = vb ∨ k = kb ∨ tv.ownBlock = some k) W).under hB1).far (Kept.far (D := fun k => k = pb ∨ k = vb ∨ k = kb ∨ tv.ownBlock = some k) (Kept.grown (Kept.refl _ W1) hgrow (fun k e => Or.inr (Or.inr (Or.inr e)))) K9 (fun k hk => Or.inl (Or.inl hk))) (fun k hk => Or.inl hk)
  have hD : ∀ k, (k = pb ∨ k = vb ∨ k = kb ∨ v8.ownBlock = some k) → (k = pb ∨ k = vb ∨ k = kb ∨ tv.ownBlock = some k) ∨ W.heap.size ≤ k := by
    rintro k (e | e | e | e)
    · exact Or.inl (Or.inl e)
    · exact Or.inl (Or.inr (Or.inl e))
    · exact Or.inl (Or.inr (Or.inr (Or.inl e)))
    · rcases hat8 with a | a
      · exact Or.inl (Or.inr (Or.inr (Or.inr (a ▸ e))))
      · exact Or.inr (Nat.le_trans hB1.size (a k e))
  have hlen := hx.1.1
  have bel9 : Below w.heap.size w w9 := h.bel.trans (KQ.below h.bel.size (fun k hk => by
    rcases hk with e | e | e | e
    · rw [e]; exact h.ge.1
    · rw [e]; exact h.ge.2.1
    · rw [e]; exact h.ge.2.2
    · exact (ownsRow_lt hx.1 e).1))
  refine ⟨pm9, h.ge, bel9, _, row9, fun j t' hj ht' => ?_⟩
  by_cases hji : j < i
  · obtain ⟨q1, u, q2, q3⟩ := hx.2 j t' hji ht'
    exact ⟨by rw [List.getElem?_append_left (by omega)]; exact q1, u, by rw [List.getElem?_append_left (by omega)]; exact q2, q3.step KQ hD⟩
  · obtain rfl : j = i := by omega
    rw [ht] at ht'
    cases ht'
    refine ⟨by rw [List.getElem?_append_right (by omega), hlen, Nat.sub_self]; rfl, v, by rw [List.getElem?_append_right (by omega), hlen, Nat.add_sub_cancel_left]; rfl, fun W' K' => ?_⟩
    have o9 : w9.ownsRow b0 3 1 v t.args.length (argC t.args) := ownsRow_blk ho (fun b hb => nb9 b (ownsRow_lt ho hb).2 (ownsRow_neC ho htv1 (by decide) hb) (fun e => rowIs_type h1.pm.cells (by decide) ho (e ▸ hb)))
    obtain ⟨es, ck, m1⟩ := pm9.vars.lt
    obtain ⟨es', ck', m2⟩ := pm9.known.lt
    refine NsAt.of_rowI (base := b0) (ownsRow_blk o9 (fun b hb => K'.block b (ownsRow_lt o9 hb).2 ?_))
    rintro (e | e | e | e)
    · exact rowIs_type pm9.cells (by decide) o9 (e ▸ hb)
    · exact down_map o9 m1 (e ▸ hb)
    · exact down_map o9 m2 (e ▸ hb)
    · exact ownsRow_neC o9 row9 (by decide) hb e
/-- All terms are there. -/
theorem Tl.np {w W : World} {pb vb kb : Nat} {bk tv : Value} {l : List Tm} (h : Tl w W pb vb kb bk tv l l.length) : ∃ ta tc, tv = .slice ta l.length tc ∧ Np (fun W => Below w.heap.size w W ∧ TsAt W (.slice ta l.length tc) l) w.heap.size (fun _ => False) W pb vb kb bk (.slice ta l.length tc) (.slice none 0 0) (.slice none 0 0) pb0 l.length [] [] := by
  obtain ⟨xs, r1, r2⟩ := h.row
  obtain ⟨ta, tc, rfl⟩ := ownsRow_form r1
  refine ⟨ta, tc, rfl, h.pm, ?_, ⟨rfl, Or.inl ⟨rfl, rfl⟩⟩, rfl, fun W' K => ⟨fun n fm g hn => by simp at hn, ?_, ?_⟩⟩
  · rintro k ((e | e | e | e) | e)
    · rw [e]; exact h.ge.1
    · rw [e]; exact h.ge.2.1
    · rw [e]; exact h.ge.2.2
    · cases e
    · cases e
  · refine h.bel.trans (K.below h.bel.size ?_)
    rintro k ((e | e | e | e) | e)
    · rw [e]; exact h.ge.1
    · rw [e]; exact h.ge.2.1
    · rw [e]; exact h.ge.2.2
    · cases e
    · cases e
  · have rW : W'.ownsRow w.heap.size 102 2 (.slice ta l.length tc) l.length xs := ownsRow_blk r1 (fun b hb => K.block b (ownsRow_lt r1 hb).2 (fun e => e.elim (h.pm.pdne r1 (by decide) (by decide) hb) (fun e => by cases e)))
    refine ⟨ta, tc, rfl, ?_⟩
    rcases id rW.2 with ⟨e2, h0⟩ | ⟨g, cap, cur, e2, _⟩
    · exact Or.inl (List.eq_nil_of_length_eq_zero h0)
    · cases e2
      have hlen := rW.1
      refine Or.inr ⟨g, 0, rfl, fun j t ht => ?_⟩
      have hj := (List.getElem?_eq_some_iff.1 ht).1
      obtain ⟨q1, u, q2, q3⟩ := r2 j t hj ht
      refine ⟨by rw [Nat.zero_add, rW.cellAt (j * 2) (by omega)]; exact q1, u, by rw [Nat.zero_add, rW.cellAt (j * 2 + 1) (by omega)]; exact q2, q3 W' (K.mono (fun k _ e => ?_))⟩
      rcases e with (e | e | e | e) | e
      · exact Or.inl e
      · exact Or.inr (Or.inl e)
      · exact Or.inr (Or.inr (Or.inl e))
      · cases e
      · cases e
/-- Forms in memory. -/
def FsM (W : World) (pa : Option Addr) (fos : List Fo) : Prop := ∀ (i : Nat) (f : Fo), fos[i]? = some f → ∃ (b off : Nat) (op x y : Int) (ka : Option Addr) (kn kc : Nat), pa = some ⟨b, off, none⟩ ∧ (W.cell? ⟨b, off + i * 4, none⟩ = some (.int .i64 op) ∧ W.cell? ⟨b, off + i * 4 + 1, none⟩ = some (.int .i64 x) ∧ W.cell? ⟨b, off + i * 4 + 2, none⟩ = some (.int .i64 y) ∧ W.cell? ⟨b, off + i * 4 + 3, none⟩ = some (.slice ka kn kc)) ∧ FIs W (.agg #[.int .i64 op, .int .i64 x, .int .i64 y, .slice ka kn kc]) f
theorem adds_len (n : Nat) : ∀ (r : List Fo) (P : Pb) (fs : List Fm), (Pb.adds n r P fs).2.length = fs.length + r.length
  | [], _, _ => rfl
  | f :: r, P, fs => by
    rw [Pb.adds, adds_len n r, List.length_append]
    simp only [List.length_cons, List.length_nil]
    omega
/-- What newProblem asks of the formulas. -/
structure FosOk (N : Nat) (fos : List Fo) : Prop where
  each : ∀ f ∈ fos, WfF f ∧ szF f ≤ 1000 ∧ RF f ∧ ∀ p ∈ ats (eqF f), (0 ≤ p.1 ∧ p.1 ≤ 1000000) ∧ 0 ≤ p.2 ∧ p.2 ≤ 1000000
  few : fos.length ≤ 1000
  small : ∀ i, i ≤ fos.length → VqP (Pb.adds N (fos.take i) pb0 []).1 ∧ (Pb.adds N (fos.take i) pb0 []).1.lemmas.length ≤ 1000000 ∧ (Pb.adds N (fos.take i) pb0 []).1.count ≤ 100000 ∧ (Pb.adds N (fos.take i) pb0 []).1.vars.length ≤ 100000
def NewPost (w : World) (p : Nat) (l : List Tm) (fos : List Fo) (e : Ending) (w' : World) : Prop :=
  ∃ pb vb kb ta tc fv lv S gs, e = .returned (.pointer (some ⟨pb, 0, none⟩)) ∧ Np (fun W => Below w.heap.size w W ∧ TsAt W (.slice ta l.length tc) l) w.heap.size S w' pb vb kb (.pointer (some ⟨p, 0, none⟩)) (.slice ta l.length tc) fv lv (Pb.adds l.length fos pb0 []).1 l.length (Pb.adds l.length fos pb0 []).2 gs
end Go.Proofs.YtlehlgipbhfioaaGreat

namespace Go.Proofs.YtlehlgipbhfioaaGreat
open Go.RowKit Go.Maps

theorem FsM.below {W W' : World} {pa : Option Addr} {fos : List Fo} (h : FsM W pa fos) (hB : Below W.heap.size W W') : FsM W' pa fos := by
  intro i f hi
  obtain ⟨b, off, op, x, y, ka, kn, kc, e, ⟨c0, c1, c2, c3⟩, hf⟩ := h i f hi
  have g : ∀ {a : Addr} {u : Value}, W.cell? a = some u → W'.cell? a = some u := fun hc => (hB.cell (World.block_lt_of_cell? W _ hc)).trans hc
  exact ⟨b, off, op, x, y, ka, kn, kc, e, ⟨g c0, g c1, g c2, g c3⟩, hf.keep hB⟩
theorem Np.below {Φ : World → Prop} {B : Nat} {S : Nat → Prop} {W W' : World} {pb vb kb : Nat} {bk tv fv lv : Value} {P : Pb} {N : Nat} {fs : List Fm} {gs : List Sx} (h : Np Φ B S W pb vb kb bk tv fv lv P N fs gs) (hB : Below W.heap.size W W') : Np Φ B S W' pb vb kb bk tv fv lv P N fs gs :=
  ⟨h.pm.below hB, h.low, ownsRow_below h.row hB, h.len, h.parts.step ((Kept.refl _ W).under hB) (fun _ e => Or.inl e)⟩
/-- A problem that is new. -/
theorem Tl.start (w : World) (bk : Value) (l : List Tm) : Tl w (((w.alloc (.map #[] 0)).alloc (.map #[] 0)).alloc (.cells #[bk, .slice none 0 0, .slice none 0 0, .map (some w.heap.size), .int .i64 0, .slice none 0 0, .map (some (w.heap.size + 1))] 118)) (w.heap.size + 1 + 1) w.heap.size (w.heap.size + 1) bk (.slice none 0 0) l 0 := by
  have hB1 : Below w.heap.size w (((w.alloc (.map #[] 0)).alloc (.map #[] 0)).alloc (.cells #[bk, .slice none 0 0, .slice none 0 0, .map (some w.heap.size), .int .i64 0, .slice none 0 0, .map (some (w.heap.size + 1))] 118)) := (((Below.refl _ _).alloc (Nat.le_refl _) _).alloc (by simp) _).alloc (by simp; omega) _
  have v0 := VrIs.new w
  have k0 := KnIs.new (w.alloc (.map #[] 0))
  have R := made_row ((w.alloc (.map #[] 0)).alloc (.map #[] 0)) #[bk, .slice none 0 0, .slice none 0 0, .map (some w.heap.size), .int .i64 0, .slice none 0 0, .map (some (w.heap.size + 1))] 118
  have z1 : (w.alloc (.map #[] 0)).heap.size = w.heap.size + 1 := by simp
  have z2 : ((w.alloc (.map #[] 0)).alloc (.map #[] 0)).heap.size = w.heap.size + 1 + 1 := by simp
  rw [z1] at k0
  rw [z2] at R
  refine ⟨⟨R.congr (fun j hj => ?_), (v0.keep (heap_alloc_old _ _ (by simp))).keep (heap_alloc_old _ _ (by simp; omega)), k0.keep (heap_alloc_old _ _ (by simp)), by omega, fun k hk => hk.elim, [], ⟨rfl, Or.inl ⟨rfl, rfl⟩⟩, rfl, fun i c hi => by simp [pb0] at hi⟩, by omega, hB1, [], ⟨rfl, Or.inl ⟨rfl, rfl⟩⟩, fun j t hj => by omega⟩
  have : j = 0 ∨ j = 1 ∨ j = 2 ∨ j = 3 ∨ j = 4 ∨ j = 5 ∨ j = 6 := by simp at hj; omega
  rcases this with rfl | rfl | rfl | rfl | rfl | rfl | rfl <;> rfl

set_option maxRecDepth 100000 in
set_option maxHeartbeats 4000000 in
theorem newProblem_in (w : World) (base p : Nat) (ev : Value) (nb fb : Nat) (l : List Tm) (h : Bk w base p ev nb fb l) (hl : l.length ≤ 1000) (pa : Option Addr) (pc : Nat) (fos : List Fo) (hF : FsM w pa fos) (hok : FosOk l.length fos) :
    Calls Tryz.prog 21 #[.pointer (some ⟨p, 0, none⟩), .slice pa fos.length pc] w (NewPost w p l fos) := by
  have HT0 : Hid _ := Tl.start w (.pointer (some ⟨p, 0, none⟩)) l
  have HH : Hid (_ ∧ _ ∧ _) := And.intro h (And.intro hF hok)
  have hB1 : Below w.heap.size w (((w.alloc (.map #[] 0)).alloc (.map #[] 0)).alloc (.cells #[.pointer (some ⟨p, 0, none⟩), .slice none 0 0, .slice none 0 0, .map (some w.heap.size), .int .i64 0, .slice none 0 0, .map (some (w.heap.size + 1))] 118)) := (((Below.refl _ _).alloc (Nat.le_refl _) _).alloc (by simp) _).alloc (by simp; omega) _
  have SZ := size_in _ base p ev nb fb l (h.below h.low hB1)
  have hfl := hok.few
  obtain ⟨nf, hnf⟩ : ∃ n, fos.length = n := ⟨_, rfl⟩
  have HNF : Hid _ := hnf
  rw [hnf] at hfl ⊢
  clear h hF hok hB1 hnf
  obtain ⟨i0, hi0, hz0, hz1, hz2⟩ := info_parts infoTerm
  have hmm := @run_makeMap Tryz.prog
  go_enter Tryz.func21, Tryz.ntmps21
  go_wp2_with (first | (go_at_call 35; refine SZ.mono ?_; rintro e w9 ⟨rfl, rfl⟩))
  clear SZ hmm
  generalize ((w.alloc (.map #[] 0)).alloc (.map #[] 0)).alloc (.cells #[.pointer (some ⟨p, 0, none⟩), .slice none 0 0, .slice none 0 0, .map (some w.heap.size), .int .i64 0, .slice none 0 0, .map (some (w.heap.size + 1))] 118) = w1 at *
  obtain ⟨pb, hpb⟩ : ∃ b, w.heap.size + 1 + 1 = b := ⟨_, rfl⟩
  obtain ⟨kb, hkb⟩ : ∃ b, w.heap.size + 1 = b := ⟨_, rfl⟩
  obtain ⟨vb, hvb⟩ : ∃ b, w.heap.size = b := ⟨_, rfl⟩
  have HT1 : Hid (Tl w w1 pb vb kb (.pointer (some ⟨p, 0, none⟩)) (.slice none 0 0) l 0) := by
    rw [← hpb, ← hkb, ← hvb]
    exact HT0.out
  simp only [hpb]
  clear HT0 hpb hkb hvb
  obtain ⟨ln, hln⟩ : ∃ n, l.length = n := ⟨_, rfl⟩
  have HLN : Hid _ := hln
  simp only [hln]
  rw [hln] at hl
  clear hln
  go_loopw [18] (fun t18 W => ∃ (i : Nat) (tv : Value), i ≤ ln ∧ t18 = .int .i64 (i : Int) ∧ Hid (Tl w W pb vb kb (.pointer (some ⟨p, 0, none⟩)) tv l i)) (fun t18 _ => ln - (intOf t18).toNat)
  case atStart => exact ⟨0, _, Nat.zero_le _, rfl, HT1⟩
  case round =>
    obtain ⟨i, tv, hi, rfl, HJ⟩ := hrel
    clear HT1
    by_cases hlt : i < ln
    · have di : decide ((i : Int) < (ln : Int)) = true := decide_eq_true (by omega)
      have hwi : IntKind.i64.wrap ((i : Int) + 1) = (i : Int) + 1 := wrap_nat1 (by omega)
      have ht : l[i]? = some (l[i]'(by rw [HLN.out]; exact hlt)) := List.getElem?_eq_getElem _
      generalize l[i]'(by rw [HLN.out]; exact hlt) = t at ht
      have TS := term_some wr base p ev nb fb l (HH.out.1.below HH.out.1.low HJ.out.bel) i t ht
      obtain ⟨xs, hx⟩ := HJ.out.row
      obtain ⟨ta, tc, htv⟩ := ownsRow_form hx.1
      subst htv
      have hget : Hid (∀ W, Below wr.heap.size wr W → W.cell? ⟨pb, 1, none⟩ = some (.slice ta i tc)) := fun W hB => by
        have := (HJ.out.below hB).pm.cells.cell (i := 1) (by omega)
        exact this
      go_wp2_with (first | (go_at_call 36; refine TS.mono ?_; rintro e w5 ⟨v, rfl, O5, B5⟩; refine Aside.out ?_))
      delta Aside
      have B6 : Below wr.heap.size wr (w5.alloc (.cells #[.string t.name, v] 102)) := B5.trans (((Below.refl _ _).alloc (Nat.le_refl _) _).mono B5.size)
      have T6 := HJ.out.below B6
      have c1 := hget.out _ B6
      have O6 := ownsRow_below O5 ((Below.refl _ w5).alloc (Nat.le_refl _) (.cells #[.string t.name, v] 102))
      have y0 : (w5.alloc (.cells #[.string t.name, v] 102)).cell? ⟨w5.heap.size, 0, none⟩ = some (.string t.name) := by simp
      have y1 : (w5.alloc (.cells #[.string t.name, v] 102)).cell? ⟨w5.heap.size, 1, none⟩ = some v := by simp
      have ro6 : Hid ((w5.alloc (.cells #[.string t.name, v] 102)).ownsRow w.heap.size 102 2 (.slice ta i tc) i xs ∧ _ ∧ _ ∧ _) := And.intro (ownsRow_below hx.1 B6) (And.intro O6 (And.intro T6 (And.intro hx HJ.out)))
      obtain ⟨vva, vvc, hvv⟩ := ownsRow_form O5
      subst hvv
      clear T6 O6 O5 hx HJ hget TS
      apply_assumption
      go_wp2_with fail
      have z6 := B6.size
      have zb : w.heap.size ≤ wr.heap.size := ro6.out.2.2.2.2.bel.size
      have HB6 : Hid _ := B6
      clear B5 B6
      generalize w5.alloc (.cells #[.string t.name, .slice vva t.args.length vvc] 102) = w6 at *
      have c1a : ∀ O, (w6.alloc O).cell? ⟨pb, 1, none⟩ = some (.slice ta i tc) := fun O => Lib.cell?_alloc_some _ c1
      have HPU : Hid (∀ (w8 : World) (v8 : Value), w8.ownsRow w.heap.size 102 2 v8 (i + 1) (xs ++ [.string t.name, .slice vva t.args.length vvc]) → (w6.alloc (.cells #[.string t.name, .slice vva t.args.length vvc] 102)).drew.grownBy w8 (Value.slice ta i tc).ownBlock → (v8.ownBlock = (Value.slice ta i tc).ownBlock ∨ ∀ k, v8.ownBlock = some k → (w6.alloc (.cells #[.string t.name, .slice vva t.args.length vvc] 102)).drew.heap.size ≤ k) →
          w8.cell? ⟨pb, 1, none⟩ = some (.slice ta i tc) ∧ w8.frozen? ⟨pb, 1, none⟩ = false ∧ Tl w (w8.setCell ⟨pb, 1, none⟩ v8) pb vb kb (.pointer (some ⟨p, 0, none⟩)) v8 l (i + 1)) := fun w8 v8 o8 g8 l8 => by
        have b7 := below_ad w6 (.cells #[.string t.name, .slice vva t.args.length vvc] 102)
        exact ro6.out.2.2.2.2.push ht (HB6.out.trans (b7.mono HB6.out.size)) ro6.out.2.2.2.1 (ownsRow_below ro6.out.2.1 b7) o8 g8 l8
      have rowt := ro6.out.1
      generalize w5.heap.size = x5 at *
      clear ro6 HB6 ht
      have hz6 : w.heap.size ≤ w6.heap.size := by omega
      go_region_law (first | (refine step_append_here rfl (.tmp 31) (.tmp 33) 59 rfl w.heap.size 102 i0 _ 2 40 Tryz.underlying59 hi0 hz0 hz1 hz2 rfl (by decide) (.slice ta i tc) i xs (by rfl) (by exact World.ownsRow.alloc rowt _) ⟨w6.heap.size, 0, none⟩ 1 1 [.string t.name, .slice vva t.args.length vvc] (by rfl) rfl (cell_two w6 _ _ _) (by simp [Value.oneCell']) (by unfold maxLen; omega) (by omega) (by simp; omega) ?_; intro v8 w8 hown8 hgrow8 hloc8; obtain ⟨b8, k8, hv8⟩ := ownsRow_succ hown8; obtain ⟨d1, d2, d3⟩ := HPU.out w8 v8 hown8 hgrow8 hloc8; have HF : Hid _ := d3; subst hv8; clear hown8 hgrow8 hloc8 d3))
      all_goals
        try simp only [Act.put, List.getElem_toArray, List.getElem_cons_succ, List.getElem_cons_zero, List.setIfInBounds_toArray, List.set_cons_succ, List.set_cons_zero]
        go_wp2_with fail
        exact ⟨⟨i + 1, _, hlt, by simp, HF⟩, by simp [intOf]; omega⟩
    · have di : decide ((i : Int) < (ln : Int)) = false := decide_eq_false (by omega)
      obtain rfl : i = ln := by omega
      have hT := HJ.out
      rw [← HLN.out] at hT
      obtain ⟨ta, tc, rfl, NP⟩ := hT.np
      have HN0 : Hid (∃ (S : Nat → Prop) (fv lv : Value) (gs : List Sx), Np (fun W => Below w.heap.size w W ∧ TsAt W (.slice ta l.length tc) l) w.heap.size S wr pb vb kb (.pointer (some ⟨p, 0, none⟩)) (.slice ta l.length tc) fv lv (Pb.adds l.length (fos.take 0) pb0 []).1 l.length (Pb.adds l.length (fos.take 0) pb0 []).2 gs) := ⟨_, _, _, _, NP⟩
      clear HJ hT NP
      go_wp2_with fail
      go_loopw [40] (fun t40 W => ∃ j : Nat, j ≤ nf ∧ t40 = .int .i64 (j : Int) ∧ Hid (∃ (S : Nat → Prop) (fv lv : Value) (gs : List Sx), Np (fun W => Below w.heap.size w W ∧ TsAt W (.slice ta l.length tc) l) w.heap.size S W pb vb kb (.pointer (some ⟨p, 0, none⟩)) (.slice ta l.length tc) fv lv (Pb.adds l.length (fos.take j) pb0 []).1 l.length (Pb.adds l.length (fos.take j) pb0 []).2 gs)) (fun t40 _ => nf - (intOf t40).toNat)
      case atStart => exact ⟨0, Nat.zero_le _, rfl, HN0⟩
      case round =>
        obtain ⟨j, hj, rfl, HK⟩ := hrel
        clear HN0
        by_cases hjl : j < nf
        · have dj : decide ((j : Int) < (nf : Int)) = true := decide_eq_true (by omega)
          have hwj : IntKind.i64.wrap ((j : Int) + 1) = (j : Int) + 1 := wrap_nat1 (by omega)
          obtain ⟨S, fv, lv, gs, NP⟩ := HK.out
          have hjf : j < fos.length := by rw [HNF.out]; exact hjl
          have hge := List.getElem?_eq_getElem hjf
          have hbl : Below w.heap.size w wr := (NP.parts wr (Kept.refl _ _)).2.1
          obtain ⟨b, off, op, x, y, ka, kn, kc, e, ⟨c0, c1, c2, c3⟩, hf⟩ := HH.out.2.1 j _ hge
          subst e
          obtain ⟨o1, o2, o3, o4⟩ := HH.out.2.2.each _ (List.getElem_mem hjf)
          have hsu : Pb.adds l.length (fos.take (j + 1)) pb0 [] = ((Pb.adds l.length (fos.take j) pb0 []).1.addF fos[j], (Pb.adds l.length (fos.take j) pb0 []).2 ++ [fmOf l.length (Pb.adds l.length (fos.take j) pb0 []).1 fos[j]]) := by
            rw [List.take_add_one, hge, Option.toList_some, adds_snoc]
          obtain ⟨s1, s2, s3, s4⟩ := HH.out.2.2.small j (by omega)
          have hB1 : Below wr.heap.size wr (wr.alloc (.cells #[.int .i64 op, .int .i64 x, .int .i64 y, .slice ka kn kc] 36)) := (Below.refl _ _).alloc (Nat.le_refl _) _
          have NP1 := NP.below hB1
          have hgs : gs.length ≤ 1000000 := by
            rw [NP.len, adds_len, List.length_take]
            simp
            omega
          have AD := dadd_in _ _ S _ pb vb kb _ _ fv lv _ l.length _ gs NP1 (Nat.le_trans hbl.size hB1.size) op x y ka kn kc fos[j] (fun W' K => hf.keep (NP1.parts W' K).2.1) o1 o2 o3 o4 s1 ⟨s2, s3, s4⟩ hgs
          have g : ∀ {a : Addr} {u : Value}, w.cell? a = some u → wr.cell? a = some u := fun hc => (hbl.cell (World.block_lt_of_cell? w _ hc)).trans hc
          have c0 := g c0
          have c1 := g c1
          have c2 := g c2
          have c3 := g c3
          have HSU : Hid _ := hsu
          have HAD : Hid _ := AD
          clear NP NP1 HK hf o1 o2 o3 o4 s1 s2 s3 s4 hsu hge hbl hB1 AD g hgs
          go_wp2_with (first | (go_at_call 43; refine Calls.mono HAD.out ?_; rintro e w9 ⟨rfl, z9, S9, fv9, lv9, gs9, N9⟩))
          refine ⟨⟨j + 1, hjl, by simp, ?_⟩, by simp [intOf]; omega⟩
          rw [HSU.out]
          exact ⟨S9, fv9, lv9, gs9, N9⟩
        · have dj : decide ((j : Int) < (nf : Int)) = false := decide_eq_false (by omega)
          obtain rfl : j = nf := by omega
          obtain ⟨S, fv, lv, gs, NP⟩ := HK.out
          rw [List.take_of_length_le (by rw [HNF.out]; exact Nat.le_refl _)] at NP
          have HN : Hid _ := NP
          clear NP HK
          go_wp2_with fail
          go_ret
          exact ⟨pb, vb, kb, ta, tc, fv, lv, S, gs, rfl, HN.out⟩
end Go.Proofs.YtlehlgipbhfioaaGreat
