/- The document's reader: Term. -/
import Derived.Test.YtlehlgipbhfioaaGreatP21
import Derived.Deep.CutRange
namespace Go.Proofs.YtlehlgipbhfioaaGreat
open Go.RowKit

theorem argC_snoc (xs : List Nat) (n : Nat) : argC (xs ++ [n]) = argC xs ++ [.int .i64 (n : Int)] := by simp [argC]

/-- One more arg. -/
theorem S2.push {w w' : World} {base r : Nat} {av : Value} {s : ByteArray} {i e a : Nat} {l : List Tm} {vs : List Value} {x : Nat} {nm : ByteArray} {xs : List Nat} {v v' : Value} (h : S2 w base r av s i e a l vs x nm xs v) (n : Nat)
    (hr : w'.ownsRow base 3 1 v' (xs.length + 1) (argC xs ++ [.int .i64 (n : Int)])) (hg : w.grownBy w' v.ownBlock) (hloc : v'.ownBlock = v.ownBlock ∨ ∀ k, v'.ownBlock = some k → w.heap.size ≤ k) :
    S2 (w'.setCell ⟨x, 1, none⟩ v') base r av s i e a l vs x nm (xs ++ [n]) v' := by
  have hvx : v.ownBlock ≠ some x := row_ne h.arg h.box (by decide)
  have hvr : v.ownBlock ≠ some r := row_ne h.arg h.st.rd.row (by decide)
  have hva : ∀ b, av.ownBlock = some b → v.ownBlock ≠ some b := fun b hb z => by
    rcases rows_apart (by decide) h.arg h.st.ls.row with y | y
    · rw [z] at y; cases y
    · exact y (z.trans hb.symm)
  have hxl := h.box.lt
  have hrl := h.st.rd.row.lt
  have K2 : Kept1 x w' (w'.setCell ⟨x, 1, none⟩ v') := Kept1.set (Kept.refl _ w') _ _
  have stay : ∀ b, b < w.heap.size → v.ownBlock ≠ some b → b ≠ x → (w'.setCell ⟨x, 1, none⟩ v').heap[b]? = w.heap[b]? := fun b hb hne hbx =>
    (K2.block b (Nat.lt_of_lt_of_le hb hg.size) hbx).trans (hg.block b hb (fun z => hne z.symm))
  have hv'x : v'.ownBlock ≠ some x := by
    rcases hloc with z | z
    · rw [z]; exact hvx
    · intro y
      have := z x y
      omega
  refine ⟨⟨h.st.rd.of_block (stay r hrl hvr (Ne.symm h.xr)), h.st.ls.blocks (fun b hb => stay b (row_lt h.st.ls.row hb) (hva b hb) (fun z => h.ax (z ▸ hb))) (fun u hu b hb => ?_), Nat.le_trans h.st.bs (Nat.le_trans hg.size K2.size), h.st.lo, h.st.four⟩, ?_, ?_, h.ax, ?_⟩
  · obtain ⟨ys, hy⟩ := h.st.ls.mem hu
    exact stay b (row_lt hy hb) (h.nv u hu b hb) (fun z => row_ne hy h.box (by decide) (z ▸ hb))
  · have b1 : w'.rowIs x 140 2 (tbox nm v) := h.box.of_block (hg.block x hxl (fun z => hvx z.symm))
    refine (b1.set 1 v').congr (fun j hj => ?_)
    rcases (by omega : j = 0 ∨ j = 1) with rfl | rfl <;> simp [tbox]
  · have := ownsRow_setCell_other (a := ⟨x, 1, none⟩) hr hv'x v'
    simpa [ArgsAt1, argC_snoc] using this
  · intro u hu k hk
    rcases hloc with z | z
    · rw [z]; exact h.nv u hu k hk
    · intro y
      obtain ⟨ys, hy⟩ := h.st.ls.mem hu
      have h1 := row_lt hy hk
      have h2 := z k y
      omega

/-- What the document's Term leaves. -/
def RPost (w : World) (base r : Nat) (av : Value) (s : ByteArray) (vs : List Value) : Res Nat → Ending → World → Prop
  | .ok n k l', e, w' => e = .returned (.int .i64 (n : Int)) ∧ ∃ av' i' vs', S1 w' base r av' s i' 0 0 l' vs' ∧ bl s i' = k ∧ GR r w av w' av' ∧ NewV w vs vs'
  | .bad c q _, e, w' => e = .returned (.int .i64 0) ∧ ∃ av' i' l' vs', S1 w' base r av' s i' c q l' vs' ∧ GR r w av w' av' ∧ NewV w vs vs'

def RTermAt (f : Nat) : Prop := ∀ (w : World) (base r : Nat) (av : Value) (s : ByteArray) (i : Nat) (l : List Tm) (vs : List Value) (deep : Nat), S1 w base r av s i 0 0 l vs → Good l → 2 * (s.size - bl s i) + 1 ≤ f → l.length + (s.size - bl s i) ≤ 600 → deep ≤ 100 →
  Calls Tryz.prog 29 #[.pointer (some ⟨r, 0, none⟩), .int .i64 (deep : Int)] w (RPost w base r av s vs (pTerm s f deep (bl s i) l))

/-- A new box for a term. -/
theorem S1.boxed {w : World} {base r : Nat} {av : Value} {s : ByteArray} {i e a : Nat} {l : List Tm} {vs : List Value} (h : S1 w base r av s i e a l vs) (nm : ByteArray) :
    S2 (w.alloc (.cells #[.string nm, .slice none 0 0] 140)) base r av s i e a l vs w.heap.size nm [] (.slice none 0 0) := by
  have K : Kept0 w (w.alloc (.cells #[.string nm, .slice none 0 0] 140)) := Kept.alloc (Kept.refl _ w) _
  refine ⟨h.kept0 K, World.rowIs.congr (made_row w #[.string nm, .slice none 0 0] 140) (fun j hj => ?_), World.ownsRow_nil _ _ _ _, fun e => ?_, fun u _ k _ => by simp [Value.ownBlock]⟩
  · have hj' : j < 2 := hj
    rcases (by omega : j = 0 ∨ j = 1) with rfl | rfl <;> rfl
  · have := row_lt h.ls.row e
    omega

theorem isB_err {s : ByteArray} {i e c : Nat} (h : 1 ≤ e) : isB s i e c = false := by
  have : ¬ e = 0 := by omega
  simp [isB, this]
theorem isB_ok (s : ByteArray) (i c : Nat) : isB s i 0 c = stands s (bl s i) c := by simp [isB]
theorem hasI_no {s : ByteArray} {i e c : Nat} (h : isB s i e c = false) : hasI s i e c = bl s i := by simp [hasI, h]
theorem hasI_yes {s : ByteArray} {i e c : Nat} (h : isB s i e c = true) : hasI s i e c = bl s i + 1 := by simp [hasI, h]
theorem failE_err {e c : Nat} (h : 1 ≤ e) : failE e c = e := by
  have : ¬ e = 0 := by omega
  simp [failE, this]
theorem failA_err {e a q : Nat} (h : 1 ≤ e) : failA e a q = a := by
  have : ¬ e = 0 := by omega
  simp [failA, this]

set_option maxHeartbeats 8000000 in
set_option maxRecDepth 100000 in
theorem rterm_err (f : Nat) (w : World) (base r : Nat) (av : Value) (s : ByteArray) (i : Nat) (l : List Tm) (vs : List Value) (deep : Nat) (h : S1 w base r av s i 0 0 l vs) (hd : deep ≤ 100) (hE : badNm s (bl s i) = true ∨ 12 < deep) :
    Calls Tryz.prog 29 #[.pointer (some ⟨r, 0, none⟩), .int .i64 (deep : Int)] w (RPost w base r av s vs (pTerm s (f + 1) deep (bl s i) l)) := by
  have hsm := h.rd.small
  have hple := bl_le h.rd.le
  have NM := rname_in w r s i av 0 0 h.rd
  generalize hres : pTerm s (f + 1) deep (bl s i) l = res
  rw [pTerm] at hres
  unfold NmPost at NM
  cases hbad : badNm s (bl s i) with
  | true =>
    rw [hbad] at NM hres
    rw [if_pos rfl] at hres
    simp only [if_true] at NM
    replace hres := hres.symm
    have NM2 : Calls Tryz.prog 61 #[.pointer (some ⟨r, 0, none⟩)] w fun x w' => x = .returned (.tuple #[.string (s.extract (bl s i) (nmE s (bl s i))), .int .i64 (bl s i : Int)]) ∧ S1 w' base r av s (nmE s (bl s i)) 2 (bl s i) l vs ∧ GR r w av w' av := NM.mono fun x w' hP => ⟨hP.1, h.read hP.2.1 hP.2.2, (GR.refl r w av).kept1 hP.2.1⟩
    clear NM
    generalize s.extract (bl s i) (nmE s (bl s i)) = N at *
    go_enter Tryz.func29, Tryz.ntmps29
    by_cases hab : 12 < deep
    · have d12 : (12 : Int) < (deep : Int) := by omega
      go_wp2_with (first | (go_at_call 61; refine NM2.mono ?_; rintro e w2 ⟨rfl, S2a, G2⟩; have FA := fail_in w2 r s _ av 2 (bl s i) S2a.rd 4 (bl s i); rw [failE_err (by omega), failA_err (by omega)] at FA) | (go_at_call 31; refine FA.mono ?_; rintro e w3 ⟨rfl, R3, K3⟩; have S3 := S2a.read K3 R3; have X3 := S3.boxed N; have HA := rhas1_in _ r s _ av 2 (bl s i) X3.st.rd 40; rw [isB_err (by omega)] at HA) | (go_at_call 62; refine HA.mono ?_; rintro e W ⟨rfl, R4, K4⟩))
      have X : S2 W base r av s _ 2 (bl s i) l vs w3.heap.size N [] (.slice none 0 0) := X3.read K4 R4
      have G : GR r w av W av := ((G2.kept1 K3).kept0 (Kept.alloc (Kept.refl _ w3) _)).kept1 K4
      have NV := NewV.refl w vs
      clear HA R4 K4 X3
      generalize w3.heap.size = x at *
      have gen : ∃ (c q : Nat) (avc : Value) (lc : List Tm) (vsc : List Value) (xs : List Nat) (v : Value) (j : Nat) (lx : List Tm), 1 ≤ c ∧ xs.length ≤ 5 ∧ S2 W base r avc s j c q lc vsc x N xs v ∧ GR r w av W avc ∧ NewV w vs vsc ∧ res = .bad c q lx := ⟨2, bl s i, av, l, vs, [], .slice none 0 0, _, _, by omega, by simp, X, G, NV, hres⟩
      clear X G NV hres
      obtain ⟨c, q, avc, lc, vsc, xs, v, j, lx, hc1, hx5, X, G, NV, rfl⟩ := gen
      obtain ⟨ca, cc, hcv⟩ := row_form X.arg
      subst hcv
      have rc2 := X.st.rd.c2
      have rc3 := X.st.rd.c3
      have y0 := X.c0
      have y1 := X.c1
      have dE : ((c : Int) != 0) = true := by simp; omega
      have CL : ∀ m, Calls Tryz.prog 63 #[avc, .agg #[.string N, .slice ca xs.length cc]] (W.drewN m) fun e w' => e = .returned (.bool (clashB lc ⟨N, xs⟩)) ∧ Kept0 (W.drewN m) w' := fun m => clashes_in (W.drewN m) base avc lc vsc (X.st.ls.drewN m) X.st.lo ⟨N, xs⟩ (.slice ca xs.length cc) X.arg (by simpa using hx5) X.st.four
      cases hcl : clashB lc ⟨N, xs⟩ with
      | false =>
        rw [hcl] at CL
        go_region_with (go_at_call 63; refine (CL _).mono ?_; rintro e w7 ⟨rfl, K7⟩; have X7 := (X.drewN _).kept0 K7; have e7 := X7.st.rd.c3)
        all_goals
          go_wp2_with fail
          go_ret
          exact ⟨rfl, avc, _, lc, vsc, X7.st, (G.step (Kept.drewN (Kept.refl (fun _ => False) W) _) (fun _ _ e => e.elim)).kept0 K7, NV⟩
      | true =>
        rw [hcl] at CL
        go_region_with (go_at_call 63; refine (CL _).mono ?_; rintro e w7 ⟨rfl, K7⟩; have X7 := (X.drewN _).kept0 K7; have FL := fail_in w7 r s _ avc c q X7.st.rd 5 (bl s i); rw [failE_err hc1, failA_err hc1] at FL)
        all_goals
          go_wp2_with (go_at_call 31; refine FL.mono ?_; rintro e w8 ⟨rfl, R8, K8⟩; have e8 := R8.c3)
          go_ret
          exact ⟨rfl, avc, _, lc, vsc, (X7.read K8 R8).st, ((G.step (Kept.drewN (Kept.refl (fun _ => False) W) _) (fun _ _ e => e.elim)).kept0 K7).kept1 K8, NV⟩
    · have d12 : ¬ (12 : Int) < (deep : Int) := by omega
      go_wp2_with (first | (go_at_call 61; refine NM2.mono ?_; rintro e w3 ⟨rfl, S3, G2⟩; have X3 := S3.boxed N; have HA := rhas1_in _ r s _ av 2 (bl s i) X3.st.rd 40; rw [isB_err (by omega)] at HA) | (go_at_call 62; refine HA.mono ?_; rintro e W ⟨rfl, R4, K4⟩))
      have X : S2 W base r av s _ 2 (bl s i) l vs w3.heap.size N [] (.slice none 0 0) := X3.read K4 R4
      have G : GR r w av W av := (G2.kept0 (Kept.alloc (Kept.refl _ w3) _)).kept1 K4
      have NV := NewV.refl w vs
      clear HA R4 K4 X3
      generalize w3.heap.size = x at *
      have gen : ∃ (c q : Nat) (avc : Value) (lc : List Tm) (vsc : List Value) (xs : List Nat) (v : Value) (j : Nat) (lx : List Tm), 1 ≤ c ∧ xs.length ≤ 5 ∧ S2 W base r avc s j c q lc vsc x N xs v ∧ GR r w av W avc ∧ NewV w vs vsc ∧ res = .bad c q lx := ⟨2, bl s i, av, l, vs, [], .slice none 0 0, _, _, by omega, by simp, X, G, NV, hres⟩
      clear X G NV hres
      obtain ⟨c, q, avc, lc, vsc, xs, v, j, lx, hc1, hx5, X, G, NV, rfl⟩ := gen
      obtain ⟨ca, cc, hcv⟩ := row_form X.arg
      subst hcv
      have rc2 := X.st.rd.c2
      have rc3 := X.st.rd.c3
      have y0 := X.c0
      have y1 := X.c1
      have dE : ((c : Int) != 0) = true := by simp; omega
      have CL : ∀ m, Calls Tryz.prog 63 #[avc, .agg #[.string N, .slice ca xs.length cc]] (W.drewN m) fun e w' => e = .returned (.bool (clashB lc ⟨N, xs⟩)) ∧ Kept0 (W.drewN m) w' := fun m => clashes_in (W.drewN m) base avc lc vsc (X.st.ls.drewN m) X.st.lo ⟨N, xs⟩ (.slice ca xs.length cc) X.arg (by simpa using hx5) X.st.four
      cases hcl : clashB lc ⟨N, xs⟩ with
      | false =>
        rw [hcl] at CL
        go_region_with (go_at_call 63; refine (CL _).mono ?_; rintro e w7 ⟨rfl, K7⟩; have X7 := (X.drewN _).kept0 K7; have e7 := X7.st.rd.c3)
        all_goals
          go_wp2_with fail
          go_ret
          exact ⟨rfl, avc, _, lc, vsc, X7.st, (G.step (Kept.drewN (Kept.refl (fun _ => False) W) _) (fun _ _ e => e.elim)).kept0 K7, NV⟩
      | true =>
        rw [hcl] at CL
        go_region_with (go_at_call 63; refine (CL _).mono ?_; rintro e w7 ⟨rfl, K7⟩; have X7 := (X.drewN _).kept0 K7; have FL := fail_in w7 r s _ avc c q X7.st.rd 5 (bl s i); rw [failE_err hc1, failA_err hc1] at FL)
        all_goals
          go_wp2_with (go_at_call 31; refine FL.mono ?_; rintro e w8 ⟨rfl, R8, K8⟩; have e8 := R8.c3)
          go_ret
          exact ⟨rfl, avc, _, lc, vsc, (X7.read K8 R8).st, ((G.step (Kept.drewN (Kept.refl (fun _ => False) W) _) (fun _ _ e => e.elim)).kept0 K7).kept1 K8, NV⟩
  | false =>
    rw [hbad] at NM hres
    rw [if_neg (by simp)] at hres
    simp only [Bool.false_eq_true, if_false] at NM
    have hnl := nm_lt hbad
    have hne := nmE_le hple
    have hn6 := nm_small hbad hple
    have NM2 : Calls Tryz.prog 61 #[.pointer (some ⟨r, 0, none⟩)] w fun x w' => x = .returned (.tuple #[.string (s.extract (bl s i) (nmE s (bl s i))), .int .i64 (bl s i : Int)]) ∧ S1 w' base r av s (nmE s (bl s i)) 0 0 l vs ∧ GR r w av w' av := NM.mono fun x w' hP => ⟨hP.1, h.read hP.2.1 hP.2.2, (GR.refl r w av).kept1 hP.2.1⟩
    clear NM
    generalize s.extract (bl s i) (nmE s (bl s i)) = N at *
    go_enter Tryz.func29, Tryz.ntmps29
    by_cases hab : 12 < deep
    · have d12 : (12 : Int) < (deep : Int) := by omega
      rw [if_pos hab] at hres
      replace hres := hres.symm
      go_wp2_with (first | (go_at_call 61; refine NM2.mono ?_; rintro e w2 ⟨rfl, S2a, G2⟩; have FA : Calls Tryz.prog 31 #[.pointer (some ⟨r, 0, none⟩), .int .i64 ((4 : Nat) : Int), .int .i64 (bl s i : Int)] w2 fun x w' => x = .returned (.tuple #[]) ∧ Rr w' r s (nmE s (bl s i)) av 4 (bl s i) ∧ Kept1 r w2 w' := fail_in w2 r s _ av 0 0 S2a.rd 4 (bl s i)) | (go_at_call 31; refine FA.mono ?_; rintro e w3 ⟨rfl, R3, K3⟩; have S3 := S2a.read K3 R3; have X3 := S3.boxed N; have HA := rhas1_in _ r s _ av 4 (bl s i) X3.st.rd 40; rw [isB_err (by omega)] at HA) | (go_at_call 62; refine HA.mono ?_; rintro e W ⟨rfl, R4, K4⟩))
      have X : S2 W base r av s _ 4 (bl s i) l vs w3.heap.size N [] (.slice none 0 0) := X3.read K4 R4
      have G : GR r w av W av := ((G2.kept1 K3).kept0 (Kept.alloc (Kept.refl _ w3) _)).kept1 K4
      have NV := NewV.refl w vs
      clear HA R4 K4 X3
      generalize w3.heap.size = x at *
      have gen : ∃ (c q : Nat) (avc : Value) (lc : List Tm) (vsc : List Value) (xs : List Nat) (v : Value) (j : Nat) (lx : List Tm), 1 ≤ c ∧ xs.length ≤ 5 ∧ S2 W base r avc s j c q lc vsc x N xs v ∧ GR r w av W avc ∧ NewV w vs vsc ∧ res = .bad c q lx := ⟨4, bl s i, av, l, vs, [], .slice none 0 0, _, _, by omega, by simp, X, G, NV, hres⟩
      clear X G NV hres
      obtain ⟨c, q, avc, lc, vsc, xs, v, j, lx, hc1, hx5, X, G, NV, rfl⟩ := gen
      obtain ⟨ca, cc, hcv⟩ := row_form X.arg
      subst hcv
      have rc2 := X.st.rd.c2
      have rc3 := X.st.rd.c3
      have y0 := X.c0
      have y1 := X.c1
      have dE : ((c : Int) != 0) = true := by simp; omega
      have CL : ∀ m, Calls Tryz.prog 63 #[avc, .agg #[.string N, .slice ca xs.length cc]] (W.drewN m) fun e w' => e = .returned (.bool (clashB lc ⟨N, xs⟩)) ∧ Kept0 (W.drewN m) w' := fun m => clashes_in (W.drewN m) base avc lc vsc (X.st.ls.drewN m) X.st.lo ⟨N, xs⟩ (.slice ca xs.length cc) X.arg (by simpa using hx5) X.st.four
      cases hcl : clashB lc ⟨N, xs⟩ with
      | false =>
        rw [hcl] at CL
        go_region_with (go_at_call 63; refine (CL _).mono ?_; rintro e w7 ⟨rfl, K7⟩; have X7 := (X.drewN _).kept0 K7; have e7 := X7.st.rd.c3)
        all_goals
          go_wp2_with fail
          go_ret
          exact ⟨rfl, avc, _, lc, vsc, X7.st, (G.step (Kept.drewN (Kept.refl (fun _ => False) W) _) (fun _ _ e => e.elim)).kept0 K7, NV⟩
      | true =>
        rw [hcl] at CL
        go_region_with (go_at_call 63; refine (CL _).mono ?_; rintro e w7 ⟨rfl, K7⟩; have X7 := (X.drewN _).kept0 K7; have FL := fail_in w7 r s _ avc c q X7.st.rd 5 (bl s i); rw [failE_err hc1, failA_err hc1] at FL)
        all_goals
          go_wp2_with (go_at_call 31; refine FL.mono ?_; rintro e w8 ⟨rfl, R8, K8⟩; have e8 := R8.c3)
          go_ret
          exact ⟨rfl, avc, _, lc, vsc, (X7.read K8 R8).st, ((G.step (Kept.drewN (Kept.refl (fun _ => False) W) _) (fun _ _ e => e.elim)).kept0 K7).kept1 K8, NV⟩
    · have d12 : ¬ (12 : Int) < (deep : Int) := by omega
      rcases hE with e | e
      · exact absurd e (by rw [hbad]; simp)
      · exact absurd e hab

end Go.Proofs.YtlehlgipbhfioaaGreat
