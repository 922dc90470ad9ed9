/- Package decide: add. -/
import Derived.Test.YtlehlgipbhfioaaGreatP52
namespace Go.Proofs.YtlehlgipbhfioaaGreat
open Go.RowKit Go.Maps

theorem ps_at {ps : List (Int × Int)} {i : Nat} {p : Int × Int} (h : ps[i]? = some p) : (pairC ps)[i * 2]? = some (.int .i64 p.1) ∧ (pairC ps)[i * 2 + 1]? = some (.int .i64 p.2) := by
  induction ps generalizing i with
  | nil => simp at h
  | cons q ps ih =>
    cases i with
    | zero =>
      simp at h
      subst h
      exact ⟨rfl, rfl⟩
    | succ i =>
      obtain ⟨h1, h2⟩ := ih (by simpa using h)
      rw [show (i + 1) * 2 = i * 2 + 2 by omega]
      exact ⟨h1, h2⟩
theorem rowP_at {l : List Pr} {i : Nat} {p : Pr} (h : l[i]? = some p) : (rowP l)[i * 2]? = some (.int .i64 (p.1 : Int)) ∧ (rowP l)[i * 2 + 1]? = some (.int .i64 (p.2 : Int)) := by
  induction l generalizing i with
  | nil => simp at h
  | cons q l ih =>
    cases i with
    | zero =>
      simp at h
      subst h
      exact ⟨rfl, rfl⟩
    | succ i =>
      obtain ⟨h1, h2⟩ := ih (by simpa using h)
      rw [show (i + 1) * 2 = i * 2 + 2 by omega]
      exact ⟨h1, h2⟩
/-- The cells of an element of a row of pairs of one's own. -/
theorem own_two {W : World} {base n : Nat} {v : Value} {xs : List Value} (h : W.ownsRow base 34 2 v n xs) {i : Nat} {a b : Value} (h1 : xs[i * 2]? = some a) (h2 : xs[i * 2 + 1]? = some b) : ∃ g c, v = .slice (some ⟨g, 0, none⟩) n c ∧ W.cell? ⟨g, i * 2, none⟩ = some a ∧ W.cell? ⟨g, i * 2 + 1, none⟩ = some b := by
  have hl := h.1
  have hi := (List.getElem?_eq_some_iff.1 h2).1
  rcases id h.2 with ⟨e, h0⟩ | ⟨g, cap, cur, e, _⟩
  · rw [h0] at hl; omega
  · subst e
    exact ⟨g, cap, rfl, by rw [h.cellAt (i * 2) (by omega)]; exact h1, by rw [h.cellAt (i * 2 + 1) (by omega)]; exact h2⟩
theorem own_one {W : World} {base n : Nat} {t : TypeId} {v : Value} {xs : List Value} (h : W.ownsRow base t 1 v n xs) {i : Nat} {a : Value} (h1 : xs[i]? = some a) : ∃ g c, v = .slice (some ⟨g, 0, none⟩) n c ∧ W.cell? ⟨g, i, none⟩ = some a := by
  have hl := h.1
  have hi := (List.getElem?_eq_some_iff.1 h1).1
  rcases id h.2 with ⟨e, h0⟩ | ⟨g, cap, cur, e, _⟩
  · rw [h0] at hl; omega
  · subst e
    exact ⟨g, cap, rfl, by rw [h.cellAt i (by omega)]; exact h1⟩

theorem cell_twoG (w : World) {g : Nat} (hg : w.heap.size = g) (a b : Value) (ty : TypeId) : ∀ j u, [a, b][j]? = some u → (w.alloc (.cells #[a, b] ty)).cell? ((⟨g, 0, none⟩ : Addr).add j) = some u := by
  subst hg
  exact cell_two w a b ty

set_option maxRecDepth 100000 in
set_option maxHeartbeats 4000000 in
theorem dadd_in (Φ : World → Prop) (B : Nat) (S : Nat → Prop) (w : World) (pb vb kb : Nat) (bk tv fv lv : Value) (P : Pb) (N : Nat) (fs : List Fm) (gs : List Sx) (h : Np Φ B S w pb vb kb bk tv fv lv P N fs gs) (hBw : B ≤ w.heap.size) (op x y : Int) (ka : Option Addr) (kn kc : Nat) (f : Fo) (hv : Stab (Dq pb vb kb lv fv) w fun W => FIs W (.agg #[.int .i64 op, .int .i64 x, .int .i64 y, .slice ka kn kc]) f)
    (hwf : WfF f) (hsz : szF f ≤ 1000) (hRF : RF f) (hpr : ∀ p ∈ ats (eqF f), (0 ≤ p.1 ∧ p.1 ≤ 1000000) ∧ 0 ≤ p.2 ∧ p.2 ≤ 1000000) (hvq : VqP P) (hsm : P.lemmas.length ≤ 1000000 ∧ P.count ≤ 100000 ∧ P.vars.length ≤ 100000) (hgl : gs.length ≤ 1000000) :
    Calls Tryz.prog 43 #[.pointer (some ⟨pb, 0, none⟩), .agg #[.int .i64 op, .int .i64 x, .int .i64 y, .slice ka kn kc]] w fun e w' => e = .returned (.tuple #[]) ∧ w.heap.size ≤ w'.heap.size ∧ ∃ S' fv' lv' gs', Np Φ B S' w' pb vb kb bk tv fv' lv' (P.addF f) N (fs ++ [fmOf N P f]) gs' := by
  obtain ⟨hcs, hal, hn1, hcl⟩ := csN_ok hwf hsz
  obtain ⟨n, hn⟩ : ∃ n, (tseN f).2.1 = n := ⟨_, rfl⟩
  have hB0 : Below w.heap.size w (w.alloc (.cells #[.int .i64 op, .int .i64 x, .int .i64 y, .slice ka kn kc] 36)) := (Below.refl _ _).alloc (Nat.le_refl _) _
  have K0 : Kept (Dq pb vb kb lv fv) w (w.alloc (.cells #[.int .i64 op, .int .i64 x, .int .i64 y, .slice ka kn kc] 36)) := (Kept.refl _ w).alloc _
  have CL := ClauseG_in (w.alloc (.cells #[.int .i64 op, .int .i64 x, .int .i64 y, .slice ka kn kc] 36)) _ f (hv _ K0) hwf (by omega) hRF _ rfl (by omega) (tseN f) rfl
  change Calls _ _ _ _ (fun e w' => ∃ ca cc, e = .returned (.tuple #[.slice ca (csN f).length cc, .int .i64 ((tseN f).2.1 : Int)]) ∧ Cl2 w' ca (csN f) ∧ ClOwn _ w' (.slice ca (csN f).length cc) (csN f) ∧ _) at CL
  obtain ⟨cl, hcll⟩ : ∃ k, (csN f).length = k := ⟨_, rfl⟩
  rw [hn, hcll] at CL
  rw [hcll] at hcl
  have HCL : Hid _ := CL
  have HCN : Hid _ := hcll
  clear hcll
  have HH : Hid (_ ∧ _ ∧ _ ∧ _ ∧ _ ∧ _ ∧ _) := And.intro h (And.intro hv (And.intro hpr (And.intro hvq (And.intro hsm (And.intro hcs (And.intro hwf (And.intro hRF hn)))))))
  have HB0 : Hid _ := hB0
  have A0 := made_row w #[.int .i64 op, .int .i64 x, .int .i64 y, .slice ka kn kc] 36
  have y0 := A0.cell (i := 0) (by simp)
  have y1 := A0.cell (i := 1) (by simp)
  have y2 := A0.cell (i := 2) (by simp)
  have y3 := A0.cell (i := 3) (by simp)
  clear h hv hpr hvq hcs hwf hRF hB0 K0 CL A0
  rw [hn] at hal hn1
  clear hn
  obtain ⟨al, hall⟩ : ∃ a, (ats (eqF f)).length = a := ⟨_, rfl⟩
  rw [hall] at hal
  have HAL : Hid _ := hall
  clear hall
  have hwn : IntKind.i64.wrap ((n : Int) + 1) = (n : Int) + 1 := wrap_nat1 (by omega)
  go_enter Tryz.func43, Tryz.ntmps43
  go_wp2_with (first | (go_at_call 77; refine Calls.mono HCL.out ?_; rintro e w1 ⟨ca, cc, rfl, _, C1, B1⟩; refine Aside.out ?_))
  delta Aside
  obtain ⟨rs, r1, r2, r3⟩ := C1
  obtain ⟨nb, hnb⟩ : ∃ b, w1.heap.size = b := ⟨_, rfl⟩
  obtain ⟨w2, hw2⟩ : ∃ w2, w1.alloc (.cells (List.replicate (n + 1) (.int .i64 0)).toArray 3) = w2 := ⟨_, rfl⟩
  have MK : (Instr.makeSlice 39 (.int .i64 ((n : Int) + 1)) (.int .i64 ((n : Int) + 1))).run Tryz.prog w1 = .ok (.slice (some ⟨nb, 0, none⟩) (n + 1) (n + 1)) w2 := by
    have := make_intsq w1 (n + 1) (by omega)
    rw [hnb, hw2] at this
    simpa using this
  have hB1 : Below w.heap.size w w1 := HB0.out.trans (B1.mono HB0.out.size)
  have hB2 : Below w1.heap.size w1 w2 := by rw [← hw2]; exact (Below.refl _ _).alloc (Nat.le_refl _) _
  have hB12 := hB1.trans (hB2.mono hB1.size)
  have AT := atomsF_in w2 _ f (HH.out.2.1 _ ((Kept.refl _ w).under hB12)) (by omega) HH.out.2.2.2.2.2.2.2.1
  rw [HAL.out] at AT
  have g1 : ∀ {a : Addr} {u : Value}, (w.alloc (.cells #[.int .i64 op, .int .i64 x, .int .i64 y, .slice ka kn kc] 36)).cell? a = some u → w2.cell? a = some u := fun hc => ((B1.trans (hB2.mono B1.size)).cell (World.block_lt_of_cell? _ _ hc)).trans hc
  have z0 := g1 y0
  have z1 := g1 y1
  have z2 := g1 y2
  have z3 := g1 y3
  have hF0 : AdF w.heap.size nb w1 op x y (.slice ka kn kc) (.slice ca cl cc) rs (csN f) (.slice none 0 0) [] := by
    refine ⟨(made_row w #[.int .i64 op, .int .i64 x, .int .i64 y, .slice ka kn kc] 36).of_block (B1.block _ (by simp)) |>.congr (fun j hj => ?_), row_low r1 (by simp), r2, fun i c hi => ?_, ⟨rfl, Or.inl ⟨rfl, rfl⟩⟩⟩
    · have : j = 0 ∨ j = 1 ∨ j = 2 ∨ j = 3 := by simp at hj; omega
      rcases this with rfl | rfl | rfl | rfl <;> rfl
    · obtain ⟨g, cap, q1, q2, q3⟩ := r3 i c hi
      exact ⟨g, cap, q1, Nat.le_trans (by simp) q2, by have := q3.lt; omega, q3⟩
  have HF0 : Hid (_ ∧ _ ∧ _ ∧ _ ∧ _) := And.intro hF0 (And.intro hB1 (And.intro hnb (And.intro hB2 hw2)))
  clear HCL r1 r2 r3 B1 hB1 hB2 hB12 y0 y1 y2 y3 g1 hnb hF0 hw2
  apply_assumption
  go_wp2_with (first | (go_at_call 78; refine AT.mono ?_; rintro e w4 ⟨u, rfl, R4, B4⟩; obtain ⟨ua, uc, rfl⟩ := ownsRow_form R4; refine Aside.out ?_))
  delta Aside
  have hF4 : AdF w.heap.size nb w4 op x y (.slice ka kn kc) (.slice ca cl cc) rs (csN f) (.slice ua al uc) (ats (eqF f)) := by
    obtain ⟨f1, f2, f3, f4, f5⟩ := HF0.out
    have h14 : Below w1.heap.size w1 w4 := f4.trans (B4.mono f4.size)
    refine ⟨f1.box.of_block (h14.block _ f1.box.lt), ownsRow_below f1.row h14, f1.dst, fun i c hi => ?_, ?_⟩
    · obtain ⟨g, cap, q1, q2, q3, q4⟩ := f1.cls i c hi
      exact ⟨g, cap, q1, q2, q3, q4.block (h14.block g q4.lt)⟩
    · rw [HAL.out]
      exact row_low R4 (by have := f2.size; have := f4.size; omega)
  have hA4 : AdI S w4 S w4 pb vb kb bk tv fv lv lv (Pb.names ((atsN f).take 0) P).2 nb (nmA P (atsN f) n 0) (.slice none 0 0) ((atsN f).take 0) := by
    have h24 := B4
    obtain ⟨f1, f2, f3, f4, f5⟩ := HF0.out
    have h14 : Below w1.heap.size w1 w4 := f4.trans (B4.mono f4.size)
    refine ⟨HH.out.1.pm.below (f2.trans (h14.mono f2.size)), fun k hk => Or.inl hk, Kept.refl _ _, Or.inl rfl, ?_, ⟨rfl, Or.inl ⟨rfl, rfl⟩⟩⟩
    have e1 : nmA P (atsN f) n 0 = List.replicate (n + 1) 0 := by
      unfold nmA
      rw [List.take_zero, Nat.sub_zero, List.replicate_succ]
      rfl
    have e2 : w2.heap[nb]? = some (.cells (List.replicate (n + 1) (.int .i64 0)).toArray 3) := by rw [← f3, ← f5]; exact heap_alloc_new _ _
    show w4.heap[nb]? = _
    rw [B4.block nb (by rw [← f3, ← f5]; simp), e2, e1]
    simp [i64]
  have hnb4 : nb < w4.heap.size ∧ w.heap.size < nb := by
    obtain ⟨f1, f2, f3, f4, f5⟩ := HF0.out
    have h1 := B4.size
    have h2 := f1.box.lt
    have h3 : w2.heap.size = w1.heap.size + 1 := by rw [← f5]; simp
    omega
  have HW : Hid (_ ∧ _) := And.intro hF4 (And.intro HH.out.1 HH.out.2)
  have HR4 : Hid _ := hA4.nms.rw
  have HB4 : Hid (Below w.heap.size w w4) := by
    obtain ⟨f1, f2, f3, f4, f5⟩ := HF0.out
    have h14 : Below w1.heap.size w1 w4 := f4.trans (B4.mono f4.size)
    exact f2.trans (h14.mono f2.size)
  have HA4 : Hid (∃ S' lv', AdI S w4 S' w4 pb vb kb bk tv fv lv lv' (Pb.names ((atsN f).take 0) P).2 nb (nmA P (atsN f) n 0) (.slice none 0 0) ((atsN f).take 0)) := ⟨S, lv, hA4⟩
  clear AT HF0 B4 R4 MK z0 z1 z2 z3 hF4 hA4 HH
  apply_assumption
  go_wp2_with fail
  obtain ⟨i0, hi0, hz0, hz1, hz2⟩ := info_parts infoPq
  go_loopw [6, 24] (fun t6 t24 W => ∃ i : Nat, i ≤ al ∧ t24 = .int .i64 (i : Int) ∧ Hid (∃ S' lv', AdI S w4 S' W pb vb kb bk tv fv lv lv' (Pb.names ((atsN f).take i) P).2 nb (nmA P (atsN f) n i) t6 ((atsN f).take i))) (fun _ t24 _ => al - (intOf t24).toNat)
  case atStart => exact ⟨0, Nat.zero_le _, rfl, HA4⟩
  case round =>
    obtain ⟨i, hi, rfl, HJ⟩ := hrel
    clear HA4
    by_cases hlt : i < al
    · have di : decide ((i : Int) < (al : Int)) = true := decide_eq_true (by omega)
      have hwi : IntKind.i64.wrap ((i : Int) + 1) = (i : Int) + 1 := wrap_nat1 (by omega)
      obtain ⟨S1, lv1, AD⟩ := HJ.out
      have hF1 : AdF w.heap.size nb wr op x y (.slice ka kn kc) (.slice ca cl cc) rs (csN f) (.slice ua al uc) (ats (eqF f)) := HW.out.1.keep HR4.out (fun k h1 h2 h3 => AD.kept.block k h2 (fun e => e.elim (fun e => absurd (HW.out.2.1.pm.pdlt e) (by omega)) h3))
      have hil : i < (ats (eqF f)).length := by rw [HAL.out]; exact hlt
      obtain ⟨x1, x2, hpx, hx1, hx2⟩ : ∃ x1 x2 : Nat, (ats (eqF f))[i]? = some ((x1 : Int), (x2 : Int)) ∧ x1 ≤ 1000000 ∧ x2 ≤ 1000000 := by
        have hp := HW.out.2.2.2.1 _ (List.getElem_mem hil)
        refine ⟨(ats (eqF f))[i].1.toNat, (ats (eqF f))[i].2.toNat, ?_, by omega, by omega⟩
        rw [List.getElem?_eq_getElem hil, Int.toNat_of_nonneg hp.1.1, Int.toNat_of_nonneg hp.2.1]
      have ham : (atsN f)[i]? = some (ordP x1 x2) := by
        unfold atsN
        rw [List.getElem?_map, hpx]
        rfl
      have hpr2 := hF1.pr
      rw [HAL.out] at hpr2
      obtain ⟨ub, uc', eu, q1, q2⟩ := own_two hpr2 (ps_at hpx).1 (ps_at hpx).2
      cases eu
      obtain ⟨hset, hnam⟩ := nmA_succ P (atsN f) ham (n := n) (by omega)
      have hlen : (nmA P (atsN f) n i).length = n + 1 := nmA_len P _ (by have := (List.getElem?_eq_some_iff.1 ham).1; omega) (by omega)
      obtain ⟨b1, b2, b3, b4, b5, b6⟩ := names_small ((atsN f).take i) P HW.out.2.2.2.2.1
      have hsm2 := HW.out.2.2.2.2.2.1
      have htl : ((atsN f).take i).length = i := by rw [List.length_take]; have := (List.getElem?_eq_some_iff.1 ham).1; omega
      have hts : (atsN f).take (i + 1) = (atsN f).take i ++ [ordP x1 x2] := by rw [List.take_add_one, ham]; rfl
      have ORD := ordered_in (wr.alloc (.cells #[.int .i64 (x1 : Int), .int .i64 (x2 : Int)] 34)) x1 x2
      rw [ordP_1, ordP_2] at ORD
      have hpo : PrOk (ordP x1 x2) := by unfold PrOk ordP; simp only; omega
      generalize ordP x1 x2 = pr at *
      obtain ⟨va, vc, hva⟩ := ownsRow_form AD.ats
      subst hva
      rw [htl] at AD ⊢
      have hB3 : Below wr.heap.size wr ((wr.alloc (.cells #[.int .i64 (x1 : Int), .int .i64 (x2 : Int)] 34)).alloc (.cells #[.int .i64 (pr.1 : Int), .int .i64 (pr.2 : Int)] 34)) := ((Below.refl _ _).alloc (Nat.le_refl _) _).alloc (by simp) _
      have AD3 := AD.below hB3
      have HAD : Hid _ := AD3
      have hz4 := AD3.kept.size
      have row3 := AD3.ats
      rw [htl] at row3
      have HPL : Hid (_ ∧ _ ∧ _ ∧ _ ∧ _ ∧ _ ∧ _) := And.intro hset (And.intro hnam (And.intro hlen (And.intro b1 (And.intro (And.intro b4 (And.intro b5 b6)) (And.intro htl hts)))))
      clear hset hnam hlen b1 b2 b3 b4 b5 b6 hts AD AD3 hF1 hpr2 HJ ham hpx
      go_wp2_with (first | (go_at_call 79; refine ORD.mono ?_; rintro e w5 ⟨rfl, rfl⟩) | (at_builtin; refine Aside.out ?_))
      delta Aside
      refine wpList_append_own_at _ rfl _ _ 109 rfl w4.heap.size 34 i0 _ 2 16 Tryz.underlying109 hi0 hz0 hz1 hz2 rfl (by decide) _ _ _ rfl (row3.alloc _) ⟨_, 0, none⟩ 1 1 [.int .i64 (pr.1 : Int), .int .i64 (pr.2 : Int)] rfl rfl (cell_twoG _ (by simp) _ _ _) (by simp [Value.oneCell']) (by unfold maxLen; omega) (by omega) (Nat.le_trans hz4 (by simp)) ?_
      intro v8 w8 hown8 hgrow8 _ hat8
      have hown8' : w8.ownsRow w4.heap.size 34 2 v8 ((atsN f).take (i + 1)).length (rowP ((atsN f).take (i + 1))) := by
        rw [HPL.out.2.2.2.2.2.2, rowP_app, List.length_append, htl]
        exact hown8
      have AD8 := HAD.out.push ((Below.refl _ _).alloc (Nat.le_refl _) _) hown8' hgrow8
      have hil8 : ((atsN f).take (i + 1))[i]? = some pr := by rw [HPL.out.2.2.2.2.2.2, List.getElem?_append_right (by omega), htl, Nat.sub_self]; rfl
      have htl8 : ((atsN f).take (i + 1)).length = i + 1 := by rw [HPL.out.2.2.2.2.2.2, List.length_append, htl]; rfl
      obtain ⟨g8, c8, e8, p1, p2⟩ := own_two AD8.ats (rowP_at hil8).1 (rowP_at hil8).2
      rw [htl8] at e8
      subst e8
      have VA := dvar_in S1 w8 pb vb kb bk tv fv lv1 _ AD8.pm (by have := HPL.out.2.2.2.2.1.2.2; rw [htl] at this; omega) (by have := HPL.out.2.2.2.2.1.1; rw [htl] at this; omega) (by have := HPL.out.2.2.2.2.1.2.1; rw [htl] at this; omega) pr hpo
      have HAD8 : Hid _ := AD8
      clear HAD hown8 hown8' hgrow8 hat8 AD8 row3 ORD q1 q2 hB3 hil8
      go_wp2_with (first | (go_at_call 80; refine VA.mono ?_; rintro e w9 ⟨rfl, S2, lv2, X2⟩; refine Aside.out ?_))
      delta Aside
      have AD9 := HAD8.out.step X2
      have hS9 : ∀ k, S k → k ≠ nb := fun k hk => by have := HW.out.2.1.pm.lt k hk; omega
      have hin : i + 1 < (nmA P (atsN f) n i).length := by rw [HPL.out.2.2.1]; omega
      have cn := AD9.nms.cell (List.getElem?_eq_getElem hin)
      have fn := AD9.nms.frozen (i + 1)
      have AD10 := AD9.name hnb4.1 hS9 (i + 1) ((Pb.names ((atsN f).take i) P).2.vari pr).1
      rw [HPL.out.1, ← HPL.out.2.1] at AD10
      have HAD10 : Hid (∃ S' lv', AdI S w4 S' (w9.setCell ⟨nb, i + 1, none⟩ (.int .i64 (((Pb.names ((atsN f).take i) P).2.vari pr).1 : Int))) pb vb kb bk tv fv lv lv' (Pb.names ((atsN f).take (i + 1)) P).2 nb (nmA P (atsN f) n (i + 1)) (.slice (some ⟨g8, 0, none⟩) (i + 1) c8) ((atsN f).take (i + 1))) := ⟨S2, lv2, AD10⟩
      generalize (nmA P (atsN f) n i)[i + 1] = zz at *
      have hin1 : i + 1 < n + 1 := by omega
      have hin2 : decide ((i : Int) + 1 < (n : Int) + 1) = true := decide_eq_true (by omega)
      clear AD9 AD10 X2 HAD8 VA p1 p2 hin
      apply_assumption
      go_wp2_with fail
      exact ⟨⟨i + 1, hlt, by simp, HAD10⟩, by simp [intOf]; omega⟩
    · have di : decide ((i : Int) < (al : Int)) = false := decide_eq_false (by omega)
      obtain rfl : i = al := by omega
      obtain ⟨S1, lv1, AD⟩ := HJ.out
      have haml : (atsN f).length = i := by unfold atsN; rw [List.length_map]; exact HAL.out
      have hta : (atsN f).take i = atsN f := List.take_of_length_le (by omega)
      obtain ⟨va, vc, hva⟩ := ownsRow_form AD.ats
      subst hva
      rw [hta, haml] at AD
      rw [hta, haml]
      have e0 := nmB_start P (atsN f) n
      rw [haml] at e0
      rw [e0] at AD
      have HB0 : Hid (AdI S w4 S1 wr pb vb kb bk tv fv lv lv1 { (Pb.names (atsN f) P).2 with count := (Pb.names (atsN f) P).2.count + 0 } nb (nmB P (atsN f) n 0) (.slice va i vc) (atsN f)) := AD
      have HML : Hid _ := haml
      have hwal : IntKind.i64.wrap ((i : Int) + 1) = (i : Int) + 1 := wrap_nat1 (by omega)
      clear AD e0 hta haml HJ hi
      go_wp2_with fail
      go_loopw [10] (fun t10 W => ∃ j : Nat, i + j ≤ n ∧ t10 = .int .i64 ((i + 1 + j : Nat) : Int) ∧ Hid (AdI S w4 S1 W pb vb kb bk tv fv lv lv1 { (Pb.names (atsN f) P).2 with count := (Pb.names (atsN f) P).2.count + j } nb (nmB P (atsN f) n j) (.slice va i vc) (atsN f))) (fun t10 _ => n + 1 - (intOf t10).toNat)
      case atStart => exact ⟨0, by omega, by simp, HB0⟩
      case round =>
        obtain ⟨j, hj, rfl, HK⟩ := hrel
        clear HB0
        by_cases hjl : i + j < n
        · have dj : decide (((i + 1 + j : Nat) : Int) ≤ (n : Int)) = true := decide_eq_true (by omega)
          have hwj : IntKind.i64.wrap (((i + 1 + j : Nat) : Int) + 1) = ((i + 1 + (j + 1) : Nat) : Int) := by rw [wrap_nat1 (by omega)]; omega
          obtain ⟨b1, b2, b3, b4, b5, b6⟩ := names_small (atsN f) P HW.out.2.2.2.2.1
          have hcs := HW.out.2.2.2.2.2.1.2.1
          rw [HML.out] at b4
          have AD := HK.out
          have c4 := AD.pm.cells.cell (i := 4) (by omega)
          have f4 := AD.pm.cells.frozen 4
          simp only [pmC] at c4
          have hwc : IntKind.i64.wrap ((((Pb.names (atsN f) P).2.count + j : Nat) : Int) + 1) = (((Pb.names (atsN f) P).2.count + (j + 1) : Nat) : Int) := by rw [wrap_nat1 (by omega)]; omega
          have AD1 := AD.step (AD.pm.count ((Pb.names (atsN f) P).2.count + (j + 1)))
          have hS9 : ∀ k, S k → k ≠ nb := fun k hk => by have := HW.out.2.1.pm.lt k hk; omega
          have hsu := nmB_succ P (atsN f) (n := n) (j := j) (by rw [HML.out]; exact hjl)
          have hln := nmB_len P (atsN f) (n := n) (j := j) (by rw [HML.out]; exact hj)
          rw [HML.out] at hsu
          have hin : i + 1 + j < (nmB P (atsN f) n j).length := by rw [hln]; omega
          have AD2 := AD1.name hnb4.1 hS9 (i + 1 + j) ((Pb.names (atsN f) P).2.count + 1 + j)
          rw [hsu] at AD2
          have cn := AD1.nms.cell (List.getElem?_eq_getElem hin)
          have fn := AD1.nms.frozen (i + 1 + j)
          have c4b := AD1.pm.cells.cell (i := 4) (by omega)
          simp only [pmC] at c4b
          generalize (nmB P (atsN f) n j)[i + 1 + j] = zz at *
          have ecc : (Pb.names (atsN f) P).2.count + (j + 1) = (Pb.names (atsN f) P).2.count + 1 + j := by omega
          rw [ecc] at AD2 c4b hwc cn fn
          have HF : Hid (AdI S w4 S1 ((wr.setCell ⟨pb, 4, none⟩ (.int .i64 (((Pb.names (atsN f) P).2.count + 1 + j : Nat) : Int))).setCell ⟨nb, i + 1 + j, none⟩ (.int .i64 (((Pb.names (atsN f) P).2.count + 1 + j : Nat) : Int))) pb vb kb bk tv fv lv lv1 { (Pb.names (atsN f) P).2 with count := (Pb.names (atsN f) P).2.count + (j + 1) } nb (nmB P (atsN f) n (j + 1)) (.slice va i vc) (atsN f)) := by
            rw [ecc]
            exact AD2
          clear AD AD1 AD2 HK b1 b2 b3 b4 b5 b6 hcs hsu hln hin ecc
          have hin1 : i + 1 + j < n + 1 := by omega
          generalize hcq : (Pb.names (atsN f) P).2.count + j = cq at *
          generalize hcr : (Pb.names (atsN f) P).2.count + 1 + j = cr at *
          clear hcq hcr
          obtain ⟨k, hk⟩ : ∃ k, i + 1 + j = k := ⟨_, rfl⟩
          have hk2 : i + 1 + (j + 1) = k + 1 := by omega
          have HK2 : Hid (_ ∧ _ ∧ _) := And.intro hk (And.intro hk2 hjl)
          rw [hk] at hin1 dj hwj cn fn HF
          rw [hk2] at hwj
          simp only [hk]
          clear hk hk2 hjl hj
          go_wp2_with fail
          refine ⟨⟨j + 1, by have := HK2.out.2.2; omega, ?_, HF⟩, ?_⟩
          · rw [HK2.out.2.1]
            simp
          · have h1 := HK2.out.1
            have h2 := HK2.out.2.2
            simp [intOf]
            omega
        · have dj : decide (((i + 1 + j : Nat) : Int) ≤ (n : Int)) = false := decide_eq_false (by omega)
          have hjn : j = n - i := by omega
          have HE : Hid (nmB P (atsN f) n j = nmsN P f ∧ ({ (Pb.names (atsN f) P).2 with count := (Pb.names (atsN f) P).2.count + j } : Pb) = P.addF f) := by
            have hnn := HW.out.2.2.2.2.2.2.2.2.2
            constructor
            · rw [← nmB_fin P f, hnn, HML.out, ← hjn]
            · unfold Pb.addF
              rw [hnn, HML.out, ← hjn]
          have hAe : Ae w S1 wr pb vb kb bk tv fv lv lv1 (P.addF f) nb (nmsN P f) (.slice va i vc) (atsN f) (.slice ca cl cc) rs (((csN f).take 0).map (fun c => c.map (renL (nmsN P f))) ++ (csN f).drop 0) op x y (.slice ka kn kc) := by
            have AD := HK.out
            rw [HE.out.1, HE.out.2] at AD
            have hF1 : AdF w.heap.size nb wr op x y (.slice ka kn kc) (.slice ca cl cc) rs (csN f) (.slice ua i uc) (ats (eqF f)) := HW.out.1.keep HR4.out (fun k h1 h2 h3 => AD.kept.block k h2 (fun e => e.elim (fun e => absurd (HW.out.2.1.pm.pdlt e) (by omega)) h3))
            rw [show ((csN f).take 0).map (fun c => c.map (renL (nmsN P f))) ++ (csN f).drop 0 = csN f by simp]
            refine ⟨AD.pm, fun j g m c hj hg => ?_, fun k hk e => ?_, ((Kept.refl (PD pb vb kb lv) w).under HB4.out).far AD.kept (fun k e => e.imp id (fun e => by omega)), AD.nms, row_low AD.ats HB4.out.size, hF1.box, hF1.row, hF1.dst, hF1.cls⟩
            · have hjl : j < (csN f).length := by rw [← hF1.dst.1]; exact (List.getElem?_eq_some_iff.1 hj).1
              obtain ⟨g2, cap2, q1, q2, q3, q4⟩ := HW.out.1.cls j _ (List.getElem?_eq_getElem hjl)
              rw [hj] at q1
              cases q1
              have hlt4 := q4.lt
              rcases AD.new g hg with e | e
              · have := HW.out.2.1.pm.lt g e
                omega
              · omega
            · have hk4 := ownsRow_lt HW.out.1.row hk
              rcases AD.at_ with e1 | e1
              · have := HW.out.2.1.pm.pdlt (k := k) (Or.inr (Or.inr (Or.inr (e1 ▸ e))))
                omega
              · have := e1 k e
                omega
          have hat : lv1.ownBlock = lv.ownBlock ∨ ∀ k, lv1.ownBlock = some k → w.heap.size ≤ k := HK.out.at_.imp id (fun e k hk => Nat.le_trans (by omega) (e k hk))
          have HAe : Hid _ := hAe
          have HAT : Hid _ := hat
          obtain ⟨k, hk⟩ : ∃ k, i + 1 + j = k := ⟨_, rfl⟩
          have dj2 : decide (k ≤ n) = false := decide_eq_false (by omega)
          have dj3 : n < k := by omega
          rw [hk] at dj
          simp only [hk]
          have hnl : (nmsN P f).length = n + 1 := by
            rw [← HE.out.1]
            exact nmB_len P (atsN f) (by rw [HML.out]; exact hj)
          have HNL : Hid _ := hnl
          clear hAe hat HE HK hjl hj hjn hk hnl
          go_wp2_with fail
          go_loopw [72] (fun t72 W => ∃ q : Nat, q ≤ cl ∧ t72 = .int .i64 (q : Int) ∧ Hid (Ae w S1 W pb vb kb bk tv fv lv lv1 (P.addF f) nb (nmsN P f) (.slice va i vc) (atsN f) (.slice ca cl cc) rs (((csN f).take q).map (fun c => c.map (renL (nmsN P f))) ++ (csN f).drop q) op x y (.slice ka kn kc))) (fun t72 _ => cl - (intOf t72).toNat)
          case atStart => exact ⟨0, Nat.zero_le _, rfl, HAe⟩
          case round =>
            obtain ⟨q, hq, rfl, HQ⟩ := hrel
            clear HAe
            by_cases hql : q < cl
            · have dq : decide ((q : Int) < (cl : Int)) = true := decide_eq_true (by omega)
              have hwq : IntKind.i64.wrap ((q : Int) + 1) = (q : Int) + 1 := wrap_nat1 (by omega)
              have hqc : q < (csN f).length := by rw [HCN.out]; exact hql
              have hge := List.getElem?_eq_getElem hqc
              have hok := HW.out.2.2.2.2.2.2.1 _ (List.getElem_mem hqc)
              have hmx : (((csN f).take q).map (fun c => c.map (renL (nmsN P f))) ++ (csN f).drop q)[q]? = some (csN f)[q] := by
                rw [List.getElem?_append_right (by simp; omega), List.getElem?_drop, List.length_map, List.length_take, Nat.min_eq_left (by omega), Nat.sub_self, Nat.add_zero]
                exact hge
              have hse : (((csN f).take q).map (fun c => c.map (renL (nmsN P f))) ++ (csN f).drop q).set q ((csN f)[q].map (renL (nmsN P f))) = ((csN f).take (q + 1)).map (fun c => c.map (renL (nmsN P f))) ++ (csN f).drop (q + 1) := by
                rw [List.set_append_right _ _ (by simp; omega), List.length_map, List.length_take, Nat.min_eq_left (by omega), Nat.sub_self, List.drop_eq_getElem_cons hqc, List.set_cons_zero, List.take_add_one, hge, Option.toList_some, List.map_append, List.append_assoc]
                rfl
              obtain ⟨g, cap, p1, p2, p3, p4⟩ := HQ.out.cls q _ hmx
              have hrow := HQ.out.row
              rw [HW.out.1.dst.1, HCN.out] at hrow
              obtain ⟨cg, cc', ecv, p5⟩ := own_one hrow p1
              cases ecv
              have RN := rename_in wr g cap _ p4 (by omega) nb (n + 1) (nmsN P f) (fun j m hj => HQ.out.nms.cell hj) p3 (fun x hx => by rw [HNL.out]; have := hok.2 x hx; rw [HW.out.2.2.2.2.2.2.2.2.2] at this; omega) (by rw [HNL.out]; omega) (nmsN_small HW.out.2.2.2.2.1 f HW.out.2.2.2.2.2.1.2.1 (by rw [HW.out.2.2.2.2.2.2.2.2.2]; omega) (by rw [HML.out]; omega))
              rw [HNL.out] at RN
              have HST : Hid (∀ W', Kept (fun k => k = g) wr W' → Rw W' g ((csN f)[q].map (renL (nmsN P f))) → Ae w S1 W' pb vb kb bk tv fv lv lv1 (P.addF f) nb (nmsN P f) (.slice va i vc) (atsN f) (.slice (some ⟨cg, 0, none⟩) cl cc) rs (((csN f).take (q + 1)).map (fun c => c.map (renL (nmsN P f))) ++ (csN f).drop (q + 1)) op x y (.slice ka kn kc)) := fun W' K hr => by
                rw [← hse]
                exact HQ.out.ren hmx p1 (by simp) K hr
              generalize (csN f)[q] = c at *
              generalize (c.map (renL (nmsN P f))) = c2 at *
              generalize c.length = cn at *
              clear HQ hge hok hmx hse p1 p2 p3 p4 hrow hqc
              go_wp2_with (first | (go_at_call 81; refine RN.mono ?_; rintro e w9 ⟨rfl, R9, K9⟩))
              exact ⟨⟨q + 1, hql, by simp, HST.out w9 K9 R9⟩, by simp [intOf]; omega⟩
            · have dq : decide ((q : Int) < (cl : Int)) = false := decide_eq_false (by omega)
              obtain rfl : q = cl := by omega
              have hlc : ((csN f).map (fun c => c.map (renL (nmsN P f)))).length = q := by rw [List.length_map]; exact HCN.out
              have hAe : Ae w S1 wr pb vb kb bk tv fv lv lv1 (P.addF f) nb (nmsN P f) (.slice va i vc) (atsN f) (.slice ca ((csN f).map (fun c => c.map (renL (nmsN P f)))).length cc) rs ((csN f).map (fun c => c.map (renL (nmsN P f)))) op x y (.slice ka kn kc) := by
                have := HQ.out
                rw [List.take_of_length_le (by rw [HCN.out]; exact Nat.le_refl _), List.drop_of_length_le (by rw [HCN.out]; exact Nat.le_refl _), List.append_nil] at this
                rw [hlc]
                exact this
              obtain ⟨fa, fc, hfv⟩ := ownsRow_form HW.out.2.1.row
              subst hfv
              have rowf : wr.ownsRow B 172 6 (.slice fa gs.length fc) gs.length (gs.flatMap sxL) := ownsRow_blk HW.out.2.1.row (fun b hb => hAe.kept.block b (ownsRow_lt HW.out.2.1.row hb).2 (HW.out.2.1.pm.pdne HW.out.2.1.row (by decide) (by decide) hb))
              have c2 := hAe.pm.cells.cell (i := 2) (by omega)
              simp only [pmC] at c2
              have c2a : ∀ O, (wr.alloc O).cell? ⟨pb, 2, none⟩ = some (.slice fa gs.length fc) := fun O => Lib.cell?_alloc_some _ c2
              have k0 := hAe.box.cell (i := 0) (by omega)
              have k1 := hAe.box.cell (i := 1) (by omega)
              have k2 := hAe.box.cell (i := 2) (by omega)
              have k3 := hAe.box.cell (i := 3) (by omega)
              simp only [boxQ] at k0 k1 k2 k3
              have hzr := hAe.kept.size
              have HAe2 : Hid _ := hAe
              have HLC : Hid _ := hlc
              obtain ⟨j0, hj0, hy0, hy1, hy2⟩ := info_parts infoFmD
              clear HQ hAe hlc hq
              obtain ⟨gn, hgn⟩ : ∃ k, gs.length = k := ⟨_, rfl⟩
              have HGN : Hid _ := hgn
              rw [hgn] at hgl rowf c2
              simp only [hgn] at c2a
              clear hgn
              have hBr : B ≤ wr.heap.size := Nat.le_trans hBw hzr
              have HPU : Hid (∀ (w8 : World) (v8 : Value), w8.ownsRow B 172 6 v8 (gn + 1) (gs.flatMap sxL ++ [.int .i64 op, .int .i64 x, .int .i64 y, .slice ka kn kc, .slice va i vc, .slice ca q cc]) → (wr.alloc (.cells #[.int .i64 op, .int .i64 x, .int .i64 y, .slice ka kn kc, .slice va i vc, .slice ca q cc] 172)).drew.grownBy w8 (Value.slice fa gn fc).ownBlock → (v8.ownBlock = (Value.slice fa gn fc).ownBlock ∨ ∀ k, v8.ownBlock = some k → (wr.alloc (.cells #[.int .i64 op, .int .i64 x, .int .i64 y, .slice ka kn kc, .slice va i vc, .slice ca q cc] 172)).drew.heap.size ≤ k) →
                  w8.cell? ⟨pb, 2, none⟩ = some (.slice fa gn fc) ∧ w8.frozen? ⟨pb, 2, none⟩ = false ∧ w.heap.size ≤ (w8.setCell ⟨pb, 2, none⟩ v8).heap.size ∧ ∃ S' fv' lv' gs', Np Φ B S' (w8.setCell ⟨pb, 2, none⟩ v8) pb vb kb bk tv fv' lv' (P.addF f) N (fs ++ [fmOf N P f]) gs') := fun w8 v8 o8 g8 l8 => by
                have hpush := HW.out.2.1.push (W1 := (wr.alloc (.cells #[.int .i64 op, .int .i64 x, .int .i64 y, .slice ka kn kc, .slice va i vc, .slice ca q cc] 172)).drew) (w8 := w8) (v8 := v8) hBw HW.out.2.2.1 (by omega) HW.out.2.2.2.2.2.2.2.2.1 HAe2.out HAT.out (below_ad wr _) (by rw [HGN.out, HLC.out]; exact o8) (by rw [HGN.out]; exact g8) (by rw [HGN.out]; exact l8)
                rw [HGN.out] at hpush
                exact ⟨hpush.1, hpush.2.1, Nat.le_trans hzr (Nat.le_trans (below_ad wr _).size (Nat.le_trans g8.size (Kept1.set (Kept.refl _ w8) 2 v8).size)), _, _, _, _, hpush.2.2⟩
              clear HW HAe2 HAT HR4 HB4 HML HNL HCN HLC HGN
              go_wp2_with fail
              go_region_law (first | (refine step_append_here rfl (.tmp 84) (.tmp 89) 115 rfl B 172 j0 _ 6 96 Tryz.underlying115 hj0 hy0 hy1 hy2 rfl (by decide) (.slice fa gn fc) gn (gs.flatMap sxL) (by rfl) (by exact World.ownsRow.alloc rowf _) ⟨wr.heap.size, 0, none⟩ 1 1 [.int .i64 op, .int .i64 x, .int .i64 y, .slice ka kn kc, .slice va i vc, .slice ca q cc] (by rfl) rfl (cell_six wr _ _ _ _ _ _ _) (by simp [Value.oneCell']) (by unfold maxLen; omega) (by omega) (by simp; omega) ?_; intro v8 w8 hown8 hgrow8 hloc8; obtain ⟨b8, k8, hv8⟩ := ownsRow_succ hown8; obtain ⟨d1, d2, d3, d4⟩ := HPU.out w8 v8 hown8 hgrow8 hloc8; have HF : Hid (_ ∧ _) := And.intro d3 d4; subst hv8; clear hown8 hgrow8 hloc8 d3 d4))
              all_goals
                try simp only [Act.put, List.getElem_toArray, List.getElem_cons_succ, List.getElem_cons_zero, List.setIfInBounds_toArray, List.set_cons_succ, List.set_cons_zero]
                go_wp2_with fail
                refine ⟨rfl, .tuple #[], by simp [results, Tryz.results43], rfl, HF.out.1, HF.out.2⟩
end Go.Proofs.YtlehlgipbhfioaaGreat
