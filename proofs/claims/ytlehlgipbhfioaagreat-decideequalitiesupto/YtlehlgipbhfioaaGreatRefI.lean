/- The document's reader: Term with a bracket. -/
import Derived.Test.YtlehlgipbhfioaaGreatRefH
namespace Go.Proofs.YtlehlgipbhfioaaGreat
open Go.RowKit

theorem one_new (w : World) (a : Value) (ty : TypeId) : ∀ j u, ([a] : List Value)[j]? = some u → (w.alloc (.cells #[a] ty)).cell? ((⟨w.heap.size, 0, none⟩ : Addr).add j) = some u := by
  intro j u hj
  match j, hj with
  | 0, hj => simp at hj; subst hj; simp [Addr.add]

theorem hvf6 {w wr w5 : World} {base r x : Nat} {av avc av5 : Value} {s : ByteArray} {i e a : Nat} {l : List Tm} {vs : List Value} {nm : ByteArray} {xs : List Nat} {v v6 : Value} (G : GR r w av wr avc) (G5 : GR r wr avc w5 av5) (_ : S2 w5 base r av5 s i e a l vs x nm xs v) (hvf : ∀ k, v.ownBlock = some k → w.heap.size ≤ k) {o : Obj} (hloc : v6.ownBlock = v.ownBlock ∨ ∀ k, v6.ownBlock = some k → (w5.alloc o).heap.size ≤ k) : ∀ k, v6.ownBlock = some k → w.heap.size ≤ k := by
  intro k hk
  rcases hloc with e | e
  · exact hvf k (e ▸ hk)
  · have h1 := e k hk
    have h2 := G.kept.size
    have h3 := G5.kept.size
    simp at h1
    omega
theorem grew6 {w wr w5 w6 : World} {base r x : Nat} {av avc av5 : Value} {s : ByteArray} {i e a : Nat} {l : List Tm} {vs : List Value} {nm : ByteArray} {xs : List Nat} {v : Value} (G : GR r w av wr avc) (G5 : GR r wr avc w5 av5) (_ : S2 w5 base r av5 s i e a l vs x nm xs v) (hvf : ∀ k, v.ownBlock = some k → w.heap.size ≤ k) (hx : w.heap.size ≤ x) {o : Obj} (hg : (w5.alloc o).grownBy w6 v.ownBlock) (u : Value) : GR r w av (w6.setCell ⟨x, 1, none⟩ u) av5 := by
  have h1 := (G.trans G5).kept0 (Kept.alloc (Kept.refl _ w5) o)
  have h2 : Kept (fun k => v.ownBlock = some k) (w5.alloc o) w6 := Kept.grown (Kept.refl _ _) hg (fun k e => e)
  have h3 := h1.step h2 (fun k _ e => Or.inr (Or.inr (hvf k e)))
  exact h3.step (Kept1.set (nb := x) (Kept.refl _ w6) 1 u) (fun k _ e => Or.inr (Or.inr (by omega)))

set_option maxHeartbeats 8000000 in
set_option maxRecDepth 100000 in
theorem rterm_paren (f : Nat) (IH : ∀ g, g ≤ f → RTermAt g) (w : World) (base r : Nat) (av : Value) (s : ByteArray) (i : Nat) (l : List Tm) (vs : List Value) (deep : Nat) (h : S1 w base r av s i 0 0 l vs) (hGo : Good l) (hf : 2 * (s.size - bl s i) + 1 ≤ f + 1) (hb : l.length + (s.size - bl s i) ≤ 600) (hab : ¬ 12 < deep) (hbad : badNm s (bl s i) = false) (hst : stands s (bl s (nmE s (bl s i))) 40 = true) :
    Calls Tryz.prog 29 #[.pointer (some ⟨r, 0, none⟩), .int .i64 (deep : Int)] w (RPost w base r av s vs (pTerm s (f + 1) deep (bl s i) l)) := by
  have hsm := h.rd.small
  have hple := bl_le h.rd.le
  have NM := rname_in w r s i av 0 0 h.rd
  generalize hres : pTerm s (f + 1) deep (bl s i) l = res
  rw [pTerm] at hres
  unfold NmPost at NM
  rw [hbad] at NM hres
  rw [if_neg (by simp), if_neg hab] at hres
  simp only [Bool.false_eq_true, if_false] at NM
  have hnl := nm_lt hbad
  have hne := nmE_le hple
  have hbe := bl_ge s (nmE s (bl s i))
  have hbel := bl_le hne
  have hbh := behind_lt hst
  have hbhl := behind_le (c := 40) hbel
  have NM2 : Calls Tryz.prog 61 #[.pointer (some ⟨r, 0, none⟩)] w fun x w' => x = .returned (.tuple #[.string (s.extract (bl s i) (nmE s (bl s i))), .int .i64 (bl s i : Int)]) ∧ S1 w' base r av s (nmE s (bl s i)) 0 0 l vs ∧ GR r w av w' av := NM.mono fun x w' hP => ⟨hP.1, h.read hP.2.1 hP.2.2, (GR.refl r w av).kept1 hP.2.1⟩
  clear NM
  generalize s.extract (bl s i) (nmE s (bl s i)) = N at *
  have d12 : ¬ (12 : Int) < (deep : Int) := by omega
  rw [hst, if_pos rfl] at hres
  replace hres := hres.symm
  have hbq : behind s (bl s (nmE s (bl s i))) 40 = bl s (bl s (nmE s (bl s i)) + 1) := behind_true hst
  go_enter Tryz.func29, Tryz.ntmps29
  go_wp2_with (first | (go_at_call 61; refine NM2.mono ?_; rintro e w3 ⟨rfl, S3, G2⟩; have X3 := S3.boxed N; have HA := rhas1_in _ r s _ av 0 0 X3.st.rd 40; rw [isB_ok, hst] at HA) | (go_at_call 62; refine HA.mono ?_; rintro e W ⟨rfl, R4, K4⟩))
  rw [hasI_yes (by rw [isB_ok]; exact hst)] at R4
  have X : S2 W base r av s _ 0 0 l vs w3.heap.size N [] (.slice none 0 0) := X3.read K4 R4
  have G : GR r w av W av := (G2.kept0 (Kept.alloc (Kept.refl _ w3) _)).kept1 K4
  have hxw : w.heap.size ≤ w3.heap.size := G2.kept.size
  clear HA R4 K4 X3 G2 S3
  generalize w3.heap.size = x at *
  obtain ⟨i0, hi0, hz0, hz1, hz2⟩ := info_parts infoI
  generalize hP0 : pArgs s f (deep + 1) (behind s (bl s (nmE s (bl s i))) 40) l [] = P0 at hres
  go_loopw [] (fun W => ∃ (m j : Nat) (avc : Value) (lc : List Tm) (vsc : List Value) (xs : List Nat) (v : Value), S2 W base r avc s j 0 0 lc vsc x N xs v ∧ Hid (m ≤ f ∧ P0 = pArgs s m (deep + 1) (bl s j) lc xs ∧ 2 * (s.size - bl s j) + 2 ≤ m ∧ lc.length + (s.size - bl s j) ≤ 600 ∧ Good lc ∧ NewV w vs vsc ∧ (∀ k, v.ownBlock = some k → w.heap.size ≤ k)) ∧ xs.length ≤ 4 ∧ Hid (GR r w av W avc)) (fun W => s.size - (match W.cell? ⟨r, 1, none⟩ with | some v => (intOf v).toNat | none => 0))
  case atStart => exact ⟨f, _, av, l, vs, [], _, X, ⟨Nat.le_refl f, by rw [← hP0, hbq], by rw [← hbq]; omega, by rw [← hbq]; omega, hGo, NewV.refl w vs, by simp [Value.ownBlock]⟩, by simp, G⟩
  case round =>
    clear X G NM2 hP0
    obtain ⟨m, j, avc, lc, vsc, xs, v, X, ⟨hmf, hPA, hm, hbk, hGc, NV, hvf⟩, hx4, G⟩ := hrel
    obtain ⟨g, rfl⟩ : ∃ g, m = g + 2 := ⟨m - 2, by omega⟩
    have hjl := X.st.rd.le
    have hkl := bl_le hjl
    rw [pArgs_ref s g (deep + 1) (bl s j) lc xs hkl] at hPA
    obtain ⟨ca, cc, hcv⟩ := row_form X.arg
    subst hcv
    have y1 := X.c1
    have rc0 := X.st.rd.c0
    have rc1 := X.st.rd.c1
    have rc3 := X.st.rd.c3
    by_cases h4 : xs.length = 4
    · have d4 : ((xs.length : Int) == 4) = true := beq_iff_eq.2 (by omega)
      have BLK := rblanks_in wr r s j avc 0 0 X.st.rd
      by_cases hks : bl s j < s.size
      · have dk : decide ((bl s j : Int) < (s.size : Int)) = true := decide_eq_true (by omega)
        rw [if_pos ⟨h4, hks⟩] at hPA
        have hr2 : res = .bad 3 (bl s j) lc := by rw [hres, hPA]
        clear hres hPA
        subst hr2
        clear rc0 rc1 rc3 h4
        go_wp2_with (first | (go_at_call 30; refine BLK.mono ?_; rintro e w5 ⟨rfl, R5, K5⟩; have X5 := X.read K5 R5; have rc0 := R5.c0; have rc1 := R5.c1; have rc3 := R5.c3))
        go_quiet (fail)
        have FT : ∀ m, Calls Tryz.prog 31 #[.pointer (some ⟨r, 0, none⟩), .int .i64 ((3 : Nat) : Int), .int .i64 (bl s j : Int)] (w5.drewN m) fun x w' => x = .returned (.tuple #[]) ∧ Rr w' r s (bl s j) avc 3 (bl s j) ∧ Kept1 r (w5.drewN m) w' := fun m => fail_in (w5.drewN m) r s _ avc 0 0 (R5.drewN m) 3 (bl s j)
        have rc1' := (R5.drewN nq).c1
        go_wp2_with (first | (go_at_call 31; refine (FT _).mono ?_; rintro e w6 ⟨rfl, R6, K6⟩; have e6 := R6.c3))
        go_ret
        exact ⟨rfl, avc, _, lc, vsc, ((X5.drewN nq).read K6 R6).st, ((G.out.kept1 K5).step (Kept.drewN (Kept.refl (fun _ => False) w5) nq) (fun _ _ e => e.elim)).kept1 K6, NV⟩
      · have dk : decide ((bl s j : Int) < (s.size : Int)) = false := decide_eq_false (by omega)
        rw [if_neg (by omega)] at hPA
        have hkend : bl s j = s.size := by omega
        have hx : pTerm s (g + 1) (deep + 1) (bl s j) lc = .bad 2 s.size lc := by rw [hkend]; exact pTerm_end s g (deep + 1) lc
        obtain ⟨c, hc⟩ : ∃ c, c = 2 := ⟨_, rfl⟩
        obtain ⟨q, hq⟩ : ∃ q, q = s.size := ⟨_, rfl⟩
        obtain ⟨l2, hl2⟩ : ∃ l2, l2 = lc := ⟨_, rfl⟩
        have hx' : pTerm s (g + 1) (deep + 1) (bl s j) lc = .bad c q l2 := by rw [hx, hc, hq, hl2]
        have hc1 : 1 ≤ c := by omega
        clear hx hc hq hl2 h4
        rename pTerm s (g + 1) (deep + 1) (bl s j) lc = .bad c q l2 => hx
        rw [hx] at hPA
        clear rc0 rc1 rc3
        go_wp2_with (first | (go_at_call 30; refine BLK.mono ?_; rintro e w4 ⟨rfl, R4, K4⟩; have rc0 := R4.c0; have rc1 := R4.c1; have rc3 := R4.c3; have y14 := (X.read K4 R4).c1))
        go_quiet (fail)
        have X4 := (X.read K4 R4).drewN nq
        have G4 : Hid (GR r w av (w4.drewN nq) avc) := (G.out.kept1 K4).step (Kept.drewN (Kept.refl (fun _ => False) w4) nq) (fun _ _ e => e.elim)
        clear X G rc0 rc1 rc3 y1 y14 BLK K4 R4
        rename S2 _ _ _ _ _ _ _ _ _ _ _ _ _ _ => X
        rename Hid (GR r w av (w4.drewN nq) avc) => G
        have TM := IH (g + 1) (by omega) (w4.drewN nq) base r avc s (bl s j) lc vsc (deep + 1) X.st hGc (by rw [bl_bl]; omega) (by rw [bl_bl]; exact hbk) (by omega)
        rw [show ((deep + 1 : Nat) : Int) = (deep : Int) + 1 from by omega, bl_bl, hx] at TM
        have y1 := X.c1
        have rc3 := X.st.rd.c3
        go_wp2_with (first | (go_at_call 29; refine TM.mono ?_; rintro e w5 ⟨rfl, av5, i5, l5, vs5, S5, G5, N5⟩; have PP := X.inner G5 N5 S5; have p1 := PP.c1) | (at_builtin; go_loud (refine wpList_append_here rfl _ _ 39 rfl base 3 i0 _ 1 8 Tryz.underlying39 hi0 hz0 hz1 hz2 rfl (by decide) _ _ (argC xs) rfl (PP.arg.alloc _) ⟨w5.heap.size, 0, none⟩ 1 1 [.int .i64 (0 : Int)] rfl rfl (one_new _ _ _) (by simp [Value.oneCell']) (by unfold maxLen; omega) (by omega) (by have := PP.st.bs; simp; omega) ?_; intro v6 w6 hown6 hgr6 hloc6; obtain ⟨va6, vc6, hv6⟩ := row_form hown6; subst hv6; have PA := PP.kept0 (Kept.alloc (Kept.refl _ w5) (.cells #[.int .i64 (0 : Int)] 3)); have b6 := World.rowIs.of_block PA.box (hgr6.block x PA.box.lt (fun z => row_ne PA.arg PA.box (by decide) z.symm)); have bc6 := World.rowIs.cell b6 (i := 1) (by omega); have bf6 := World.rowIs.frozen b6 1; have Y := PA.push 0 hown6 hgr6 hloc6; have hv6 : ∀ k, (Value.slice va6 (xs.length + 1) vc6).ownBlock = some k → w.heap.size ≤ k := hvf6 G.out G5 PP hvf hloc6; have G6 : GR r w av (w6.setCell ⟨x, 1, none⟩ (.slice va6 (xs.length + 1) vc6)) av5 := grew6 G.out G5 PP hvf hxw hgr6 _; have HC := rhas1_in _ r s _ av5 c q Y.st.rd 44; rw [isB_err hc1] at HC)) | (go_at_call 31; refine FE.mono ?_; rintro e W ⟨rfl, R9, K9⟩) | (go_at_call 62; refine HD.mono ?_; rintro e w8 ⟨rfl, R8, K8⟩; have Y8 := Y7.read K8 R8; have u1 := R8.c1; have FE := fail_in w8 r s _ av5 c q R8 2 (hasI s (hasI s i5 c 44) c 41); rw [failE_err hc1, failA_err hc1] at FE) | (go_at_call 62; refine HC.mono ?_; rintro e w7 ⟨rfl, R7, K7⟩; have Y7 := Y.read K7 R7; have HD := rhas1_in w7 r s _ av5 c q R7 41; rw [isB_err hc1] at HD))
        have X9 := Y8.read K9 R9
        have G9 := ((G6.kept1 K7).kept1 K8).kept1 K9
        have NV9 := NV.trans N5 G.out.kept.size
        have hr2 : res = .bad c q l2 := by rw [hres, hPA]
        have h5 : (xs ++ [0]).length ≤ 5 := by simp; omega
        clear X G NV hres
        have gen : ∃ (c q : Nat) (avc : Value) (lc : List Tm) (vsc : List Value) (xs : List Nat) (v : Value) (j : Nat) (lx : List Tm), 1 ≤ c ∧ xs.length ≤ 5 ∧ S2 W base r avc s j c q lc vsc x N xs v ∧ GR r w av W avc ∧ NewV w vs vsc ∧ res = .bad c q lx := ⟨c, q, av5, l5, vs5, xs ++ [0], _, _, _, hc1, h5, X9, G9, NV9, hr2⟩
        clear X9 G9 NV9 hr2 h5 Y8 Y7 Y PP PA TM y1 rc3 p1 bc6 bf6 b6 HC HD FE hown6 hgr6 hloc6 d4 hPA hx S5 G5 N5 G6 R7 K7 R8 K8 R9 K9 u1 hv6 hvf hGc hx4 hc1
        obtain ⟨c, q, avc, lc, vsc, xs, v, j, lx, hc1, hx5, X, G, NV, rfl⟩ := gen
        obtain ⟨ca, cc, hcv⟩ := row_form X.arg
        subst hcv
        have rc2 := X.st.rd.c2
        have rc3 := X.st.rd.c3
        have y0 := X.c0
        have y1 := X.c1
        have dE : ((c : Int) != 0) = true := by simp; omega
        have CL : ∀ m, Calls Tryz.prog 63 #[avc, .agg #[.string N, .slice ca xs.length cc]] (W.drewN m) fun e w' => e = .returned (.bool (clashB lc ⟨N, xs⟩)) ∧ Kept0 (W.drewN m) w' := fun m => clashes_in (W.drewN m) base avc lc vsc (X.st.ls.drewN m) X.st.lo ⟨N, xs⟩ (.slice ca xs.length cc) X.arg (by simpa using hx5) X.st.four
        cases hcl : clashB lc ⟨N, xs⟩ with
        | false =>
          rw [hcl] at CL
          go_region_with (go_at_call 63; refine (CL _).mono ?_; rintro e w7 ⟨rfl, K7⟩; have X7 := (X.drewN _).kept0 K7; have e7 := X7.st.rd.c3)
          all_goals
            go_wp2_with fail
            go_ret
            exact ⟨rfl, avc, _, lc, vsc, X7.st, (G.step (Kept.drewN (Kept.refl (fun _ => False) W) _) (fun _ _ e => e.elim)).kept0 K7, NV⟩
        | true =>
          rw [hcl] at CL
          go_region_with (go_at_call 63; refine (CL _).mono ?_; rintro e w7 ⟨rfl, K7⟩; have X7 := (X.drewN _).kept0 K7; have FL := fail_in w7 r s _ avc c q X7.st.rd 5 (bl s i); rw [failE_err hc1, failA_err hc1] at FL)
          all_goals
            go_wp2_with (go_at_call 31; refine FL.mono ?_; rintro e w8 ⟨rfl, R8, K8⟩; have e8 := R8.c3)
            go_ret
            exact ⟨rfl, avc, _, lc, vsc, (X7.read K8 R8).st, ((G.step (Kept.drewN (Kept.refl (fun _ => False) W) _) (fun _ _ e => e.elim)).kept0 K7).kept1 K8, NV⟩
    · have d4 : ((xs.length : Int) == 4) = false := beq_eq_false_iff_ne.2 (by omega)
      rw [if_neg (by omega)] at hPA
      have TM := IH (g + 1) (by omega) wr base r avc s j lc vsc (deep + 1) X.st hGc (by omega) hbk (by omega)
      rw [show ((deep + 1 : Nat) : Int) = (deep : Int) + 1 from by omega] at TM
      cases hx : pTerm s (g + 1) (deep + 1) (bl s j) lc with
      | bad c q l2 =>
        rw [hx] at TM hPA
        have hc1 := ((p_bad s (g + 1)).1 (deep + 1) (bl s j) lc c q l2 hkl (by omega) hx).1
        go_wp2_with (first | (go_at_call 29; refine TM.mono ?_; rintro e w5 ⟨rfl, av5, i5, l5, vs5, S5, G5, N5⟩; have PP := X.inner G5 N5 S5; have p1 := PP.c1) | (at_builtin; go_loud (refine wpList_append_here rfl _ _ 39 rfl base 3 i0 _ 1 8 Tryz.underlying39 hi0 hz0 hz1 hz2 rfl (by decide) _ _ (argC xs) rfl (PP.arg.alloc _) ⟨w5.heap.size, 0, none⟩ 1 1 [.int .i64 (0 : Int)] rfl rfl (one_new _ _ _) (by simp [Value.oneCell']) (by unfold maxLen; omega) (by omega) (by have := PP.st.bs; simp; omega) ?_; intro v6 w6 hown6 hgr6 hloc6; obtain ⟨va6, vc6, hv6⟩ := row_form hown6; subst hv6; have PA := PP.kept0 (Kept.alloc (Kept.refl _ w5) (.cells #[.int .i64 (0 : Int)] 3)); have b6 := World.rowIs.of_block PA.box (hgr6.block x PA.box.lt (fun z => row_ne PA.arg PA.box (by decide) z.symm)); have bc6 := World.rowIs.cell b6 (i := 1) (by omega); have bf6 := World.rowIs.frozen b6 1; have Y := PA.push 0 hown6 hgr6 hloc6; have hv6 : ∀ k, (Value.slice va6 (xs.length + 1) vc6).ownBlock = some k → w.heap.size ≤ k := hvf6 G.out G5 PP hvf hloc6; have G6 : GR r w av (w6.setCell ⟨x, 1, none⟩ (.slice va6 (xs.length + 1) vc6)) av5 := grew6 G.out G5 PP hvf hxw hgr6 _; have HC := rhas1_in _ r s _ av5 c q Y.st.rd 44; rw [isB_err hc1] at HC)) | (go_at_call 31; refine FE.mono ?_; rintro e W ⟨rfl, R9, K9⟩) | (go_at_call 62; refine HD.mono ?_; rintro e w8 ⟨rfl, R8, K8⟩; have Y8 := Y7.read K8 R8; have u1 := R8.c1; have FE := fail_in w8 r s _ av5 c q R8 2 (hasI s (hasI s i5 c 44) c 41); rw [failE_err hc1, failA_err hc1] at FE) | (go_at_call 62; refine HC.mono ?_; rintro e w7 ⟨rfl, R7, K7⟩; have Y7 := Y.read K7 R7; have HD := rhas1_in w7 r s _ av5 c q R7 41; rw [isB_err hc1] at HD))
        have X9 := Y8.read K9 R9
        have G9 := ((G6.kept1 K7).kept1 K8).kept1 K9
        have NV9 := NV.trans N5 G.out.kept.size
        have hr2 : res = .bad c q l2 := by rw [hres, hPA]
        have h5 : (xs ++ [0]).length ≤ 5 := by simp; omega
        clear X G NV hres
        have gen : ∃ (c q : Nat) (avc : Value) (lc : List Tm) (vsc : List Value) (xs : List Nat) (v : Value) (j : Nat) (lx : List Tm), 1 ≤ c ∧ xs.length ≤ 5 ∧ S2 W base r avc s j c q lc vsc x N xs v ∧ GR r w av W avc ∧ NewV w vs vsc ∧ res = .bad c q lx := ⟨c, q, av5, l5, vs5, xs ++ [0], _, _, _, hc1, h5, X9, G9, NV9, hr2⟩
        clear X9 G9 NV9 hr2 h5 Y8 Y7 Y PP PA TM y1 rc3 p1 bc6 bf6 b6 HC HD FE hown6 hgr6 hloc6 d4 hPA hx S5 G5 N5 G6 R7 K7 R8 K8 R9 K9 u1 hv6 hvf hGc hx4 hc1
        obtain ⟨c, q, avc, lc, vsc, xs, v, j, lx, hc1, hx5, X, G, NV, rfl⟩ := gen
        obtain ⟨ca, cc, hcv⟩ := row_form X.arg
        subst hcv
        have rc2 := X.st.rd.c2
        have rc3 := X.st.rd.c3
        have y0 := X.c0
        have y1 := X.c1
        have dE : ((c : Int) != 0) = true := by simp; omega
        have CL : ∀ m, Calls Tryz.prog 63 #[avc, .agg #[.string N, .slice ca xs.length cc]] (W.drewN m) fun e w' => e = .returned (.bool (clashB lc ⟨N, xs⟩)) ∧ Kept0 (W.drewN m) w' := fun m => clashes_in (W.drewN m) base avc lc vsc (X.st.ls.drewN m) X.st.lo ⟨N, xs⟩ (.slice ca xs.length cc) X.arg (by simpa using hx5) X.st.four
        cases hcl : clashB lc ⟨N, xs⟩ with
        | false =>
          rw [hcl] at CL
          go_region_with (go_at_call 63; refine (CL _).mono ?_; rintro e w7 ⟨rfl, K7⟩; have X7 := (X.drewN _).kept0 K7; have e7 := X7.st.rd.c3)
          all_goals
            go_wp2_with fail
            go_ret
            exact ⟨rfl, avc, _, lc, vsc, X7.st, (G.step (Kept.drewN (Kept.refl (fun _ => False) W) _) (fun _ _ e => e.elim)).kept0 K7, NV⟩
        | true =>
          rw [hcl] at CL
          go_region_with (go_at_call 63; refine (CL _).mono ?_; rintro e w7 ⟨rfl, K7⟩; have X7 := (X.drewN _).kept0 K7; have FL := fail_in w7 r s _ avc c q X7.st.rd 5 (bl s i); rw [failE_err hc1, failA_err hc1] at FL)
          all_goals
            go_wp2_with (go_at_call 31; refine FL.mono ?_; rintro e w8 ⟨rfl, R8, K8⟩; have e8 := R8.c3)
            go_ret
            exact ⟨rfl, avc, _, lc, vsc, (X7.read K8 R8).st, ((G.step (Kept.drewN (Kept.refl (fun _ => False) W) _) (fun _ _ e => e.elim)).kept0 K7).kept1 K8, NV⟩
      | ok n k2 l2 =>
        rw [hx] at TM hPA
        simp only at hPA
        have hGl := (p_good s (g + 1)).1 (deep + 1) (bl s j) lc n k2 l2 hkl hGc hx
        obtain ⟨hk2, hk2l⟩ := ((p_grows s (g + 1)).1 (deep + 1) (bl s j) lc hkl).2 n k2 l2 hx
        obtain ⟨hcn, hcl⟩ := (p_count s (g + 1)).1 (deep + 1) (bl s j) lc n k2 l2 hkl hx
        cases h44 : stands s k2 44 with
        | true =>
          rw [h44, if_pos rfl] at hPA
          have hb44 := behind_lt h44
          have hb44l := behind_le (c := 44) hk2l
          have hbt : behind s k2 44 = bl s (k2 + 1) := behind_true h44
          go_wp2_with (first | (go_at_call 29; refine TM.mono ?_; rintro e w5 ⟨rfl, av5, i5, vs5, S5, hi5, G5, N5⟩; have PP := X.inner G5 N5 S5; have p1 := PP.c1) | (at_builtin; go_loud (refine wpList_append_here rfl _ _ 39 rfl base 3 i0 _ 1 8 Tryz.underlying39 hi0 hz0 hz1 hz2 rfl (by decide) _ _ (argC xs) rfl (PP.arg.alloc _) ⟨w5.heap.size, 0, none⟩ 1 1 [.int .i64 (n : Int)] rfl rfl (one_new _ _ _) (by simp [Value.oneCell']) (by unfold maxLen; omega) (by omega) (by have := PP.st.bs; simp; omega) ?_; intro v6 w6 hown6 hgr6 hloc6; obtain ⟨va6, vc6, hv6⟩ := row_form hown6; subst hv6; have PA := PP.kept0 (Kept.alloc (Kept.refl _ w5) (.cells #[.int .i64 (n : Int)] 3)); have b6 := World.rowIs.of_block PA.box (hgr6.block x PA.box.lt (fun z => row_ne PA.arg PA.box (by decide) z.symm)); have bc6 := World.rowIs.cell b6 (i := 1) (by omega); have bf6 := World.rowIs.frozen b6 1; have Y := PA.push n hown6 hgr6 hloc6; have hv6 : ∀ k, (Value.slice va6 (xs.length + 1) vc6).ownBlock = some k → w.heap.size ≤ k := hvf6 G.out G5 PP hvf hloc6; have G6 : GR r w av (w6.setCell ⟨x, 1, none⟩ (.slice va6 (xs.length + 1) vc6)) av5 := grew6 G.out G5 PP hvf hxw hgr6 _; have HC := rhas1_in _ r s _ av5 0 0 Y.st.rd 44; rw [isB_ok, hi5, h44] at HC)) | (go_at_call 62; refine HC.mono ?_; rintro e w7 ⟨rfl, R7, K7⟩))
          rw [hasI_yes (by rw [isB_ok, hi5]; exact h44), hi5] at R7
          go_roundw
          case rel => exact ⟨g + 1, k2 + 1, av5, l2, vs5, xs ++ [n], _, Y.read K7 R7, ⟨by omega, by rw [← hbt]; exact hPA, by rw [← hbt]; omega, by rw [← hbt]; omega, hGl, NV.trans N5 G.out.kept.size, hv6⟩, by simp; omega, G6.kept1 K7⟩
          case measure =>
            have hq1 := bl_ge s j
            have hq2 := R7.le
            rw [X.st.rd.c1, R7.c1]
            simp [intOf]
            omega
        | false =>
          rw [h44, if_neg (by simp)] at hPA
          cases h41 : stands s k2 41 with
          | true =>
            rw [h41, if_pos rfl] at hPA
            have hb41 := behind_lt h41
            have hbt : behind s k2 41 = bl s (k2 + 1) := behind_true h41
            go_wp2_with (first | (go_at_call 29; refine TM.mono ?_; rintro e w5 ⟨rfl, av5, i5, vs5, S5, hi5, G5, N5⟩; have PP := X.inner G5 N5 S5; have p1 := PP.c1) | (at_builtin; go_loud (refine wpList_append_here rfl _ _ 39 rfl base 3 i0 _ 1 8 Tryz.underlying39 hi0 hz0 hz1 hz2 rfl (by decide) _ _ (argC xs) rfl (PP.arg.alloc _) ⟨w5.heap.size, 0, none⟩ 1 1 [.int .i64 (n : Int)] rfl rfl (one_new _ _ _) (by simp [Value.oneCell']) (by unfold maxLen; omega) (by omega) (by have := PP.st.bs; simp; omega) ?_; intro v6 w6 hown6 hgr6 hloc6; obtain ⟨va6, vc6, hv6⟩ := row_form hown6; subst hv6; have PA := PP.kept0 (Kept.alloc (Kept.refl _ w5) (.cells #[.int .i64 (n : Int)] 3)); have b6 := World.rowIs.of_block PA.box (hgr6.block x PA.box.lt (fun z => row_ne PA.arg PA.box (by decide) z.symm)); have bc6 := World.rowIs.cell b6 (i := 1) (by omega); have bf6 := World.rowIs.frozen b6 1; have Y := PA.push n hown6 hgr6 hloc6; have hv6 : ∀ k, (Value.slice va6 (xs.length + 1) vc6).ownBlock = some k → w.heap.size ≤ k := hvf6 G.out G5 PP hvf hloc6; have G6 : GR r w av (w6.setCell ⟨x, 1, none⟩ (.slice va6 (xs.length + 1) vc6)) av5 := grew6 G.out G5 PP hvf hxw hgr6 _; have HC := rhas1_in _ r s _ av5 0 0 Y.st.rd 44; rw [isB_ok, hi5, h44] at HC)) | (go_at_call 62; refine HD.mono ?_; rintro e W ⟨rfl, R8, K8⟩) | (go_at_call 62; refine HC.mono ?_; rintro e w7 ⟨rfl, R7, K7⟩; rw [hasI_no (by rw [isB_ok, hi5]; exact h44), hi5] at R7; have Y7 := Y.read K7 R7; have HD := rhas1_in w7 r s _ av5 0 0 R7 41; rw [isB_ok, show bl s k2 = k2 from by rw [← hi5, bl_bl], h41] at HD))
            have hbk2 : bl s k2 = k2 := by rw [← hi5, bl_bl]
            rw [hasI_yes (by rw [isB_ok, hbk2]; exact h41), hbk2] at R8
            have X8 := Y7.read K8 R8
            have G8 := (G6.kept1 K7).kept1 K8
            have NV8 := NV.trans N5 G.out.kept.size
            have hr2 : res = pEnd ⟨N, xs ++ [n]⟩ (bl s i) (bl s (k2 + 1)) l2 := by rw [hres, hPA, hbt]
            have hb2 : l2.length < 1000 := by have := X8.st.rd.le; omega
            have h54 : (xs ++ [n]).length ≤ 4 := by simp; omega
            clear X G NV hres hvf hGc hx4
            have gen : ∃ (avc : Value) (lc : List Tm) (vsc : List Value) (xs : List Nat) (v : Value) (j : Nat), xs.length ≤ 4 ∧ S2 W base r avc s j 0 0 lc vsc x N xs v ∧ GR r w av W avc ∧ NewV w vs vsc ∧ (∀ k, v.ownBlock = some k → w.heap.size ≤ k) ∧ Good lc ∧ lc.length < 1000 ∧ res = pEnd ⟨N, xs⟩ (bl s i) (bl s j) lc := ⟨av5, l2, vs5, xs ++ [n], _, k2 + 1, h54, X8, G8, NV8, hv6, hGl, hb2, hr2⟩
            clear X8 G8 NV8 hr2 hv6 hGl hb2 h54 Y7 Y PP PA TM y1 rc0 rc1 rc3 p1 bc6 bf6 b6 HC HD hown6 hgr6 hloc6 d4 hPA hx S5 G5 N5 G6 R7 K7 R8 K8
            obtain ⟨avc, lc, vsc, xs, v, j, hx4, X, G, NV, hvf, hGc, hlc, hres⟩ := gen
            obtain ⟨ca, cc, hcv⟩ := row_form X.arg
            subst hcv
            have rc2 := X.st.rd.c2
            have rc3 := X.st.rd.c3
            have y0 := X.c0
            have y1 := X.c1
            have CL : ∀ m, Calls Tryz.prog 63 #[avc, .agg #[.string N, .slice ca xs.length cc]] (W.drewN m) fun e w' => e = .returned (.bool (clashB lc ⟨N, xs⟩)) ∧ Kept0 (W.drewN m) w' := fun m => clashes_in (W.drewN m) base avc lc vsc (X.st.ls.drewN m) X.st.lo ⟨N, xs⟩ (.slice ca xs.length cc) X.arg (by simp; omega) X.st.four
            cases hcl : clashB lc ⟨N, xs⟩ with
            | true =>
              rw [hcl] at CL
              have hfit : fitsB lc ⟨N, xs⟩ = false := by have := clash_fits hGc ⟨N, xs⟩; rw [hcl] at this; simpa using this.symm
              have hr2 : res = .bad 5 (bl s i) lc := by rw [hres, pEnd, hfit]; rfl
              clear hres
              subst hr2
              go_region_with (go_at_call 63; refine (CL _).mono ?_; rintro e w7 ⟨rfl, K7⟩; have X7 := (X.drewN _).kept0 K7; have FL : Calls Tryz.prog 31 #[.pointer (some ⟨r, 0, none⟩), .int .i64 ((5 : Nat) : Int), .int .i64 (bl s i : Int)] w7 fun x w' => x = .returned (.tuple #[]) ∧ Rr w' r s _ avc 5 (bl s i) ∧ Kept1 r w7 w' := fail_in w7 r s _ avc 0 0 X7.st.rd 5 (bl s i))
              all_goals
                go_wp2_with (go_at_call 31; refine FL.mono ?_; rintro e w8 ⟨rfl, R8, K8⟩; have e8 := R8.c3)
                go_ret
                exact ⟨rfl, avc, _, lc, vsc, (X7.read K8 R8).st, ((G.step (Kept.drewN (Kept.refl (fun _ => False) W) _) (fun _ _ e => e.elim)).kept0 K7).kept1 K8, NV⟩
            | false =>
              rw [hcl] at CL
              have hfit : fitsB lc ⟨N, xs⟩ = true := by have := clash_fits hGc ⟨N, xs⟩; rw [hcl] at this; simpa using this.symm
              have hr2 : res = .ok (addN lc ⟨N, xs⟩) (bl s j) (addL lc ⟨N, xs⟩) := by rw [hres, pEnd, hfit]; rfl
              clear hres
              subst hr2
              go_region_with (go_at_call 63; refine (CL _).mono ?_; rintro e w7 ⟨rfl, K7⟩; have X7 := (X.drewN _).kept0 K7; have e7 := X7.st.rd.c3; have e72 := X7.st.rd.c2; have z0 := X7.c0; have z1 := X7.c1)
              all_goals
                clear rc2 rc3 y0 y1 CL
                have PUT : ∀ m, Calls Tryz.prog 64 #[avc, .agg #[.string N, .slice ca xs.length cc]] (w7.drewN m) (PutPost (w7.drewN m) base avc lc vsc ⟨N, xs⟩ (.slice ca xs.length cc)) := fun m => put_in (w7.drewN m) base avc lc vsc (X7.st.ls.drewN m) X7.st.lo ⟨N, xs⟩ (.slice ca xs.length cc) X7.arg X7.st.four X7.st.bs
                go_wp2_with fail
                go_region_with (go_at_call 64; refine (PUT _).mono ?_; rintro e w9 ⟨av9, rfl, L9, K9, loc9⟩; have R9 : Rr w9 r s _ avc 0 0 := (X7.st.rd.drewN _).of_block (K9.block r X7.st.rd.row.lt (row_ne X7.st.ls.row X7.st.rd.row (by decide))); have q2 := R9.c2; have q3 := R9.row.frozen 2; obtain ⟨pa, pc, hpv⟩ := L9.form; subst hpv)
                all_goals
                  go_wp2_with fail
                  go_ret
                  have SS := (X7.st.drewN _).stored K9 L9 (by have := addL_len lc ⟨N, xs⟩; omega) (fun u hu => by
                    rcases addL_mem hu with y | y
                    · exact X7.st.four u y
                    · rw [y]; exact hx4)
                  have GB := ((G.step (Kept.drewN (Kept.refl (fun _ => False) W) 1) (fun _ _ e => e.elim)).kept0 K7)
                  have GC := (GB.step (Kept.drewN (Kept.refl (fun _ => False) w7) 1) (fun _ _ e => e.elim)).step K9 (fun k _ e => Or.inr (Or.inl e))
                  have hsz : w.heap.size ≤ w7.heap.size := GB.kept.size
                  refine ⟨rfl, _, j, _, SS, rfl, ⟨(GC.step (Kept1.set (nb := r) (Kept.refl _ w9) 2 _) (fun _ _ e => Or.inl e)).kept, ?_⟩, ?_⟩
                  · rcases loc9 with e | e
                    · rcases G.row with e2 | e2
                      · exact Or.inl (e.trans e2)
                      · exact Or.inr fun k hk => e2 k (e ▸ hk)
                    · exact Or.inr fun k hk => Nat.le_trans hsz (e k hk)
                  · intro u hu
                    rcases putV_mem hu with y | y
                    · exact NV u y
                    · rw [y]; exact Or.inr hvf
          | false =>
            rw [h41, if_neg (by simp)] at hPA
            go_wp2_with (first | (go_at_call 29; refine TM.mono ?_; rintro e w5 ⟨rfl, av5, i5, vs5, S5, hi5, G5, N5⟩; have PP := X.inner G5 N5 S5; have p1 := PP.c1) | (at_builtin; go_loud (refine wpList_append_here rfl _ _ 39 rfl base 3 i0 _ 1 8 Tryz.underlying39 hi0 hz0 hz1 hz2 rfl (by decide) _ _ (argC xs) rfl (PP.arg.alloc _) ⟨w5.heap.size, 0, none⟩ 1 1 [.int .i64 (n : Int)] rfl rfl (one_new _ _ _) (by simp [Value.oneCell']) (by unfold maxLen; omega) (by omega) (by have := PP.st.bs; simp; omega) ?_; intro v6 w6 hown6 hgr6 hloc6; obtain ⟨va6, vc6, hv6⟩ := row_form hown6; subst hv6; have PA := PP.kept0 (Kept.alloc (Kept.refl _ w5) (.cells #[.int .i64 (n : Int)] 3)); have b6 := World.rowIs.of_block PA.box (hgr6.block x PA.box.lt (fun z => row_ne PA.arg PA.box (by decide) z.symm)); have bc6 := World.rowIs.cell b6 (i := 1) (by omega); have bf6 := World.rowIs.frozen b6 1; have Y := PA.push n hown6 hgr6 hloc6; have hv6 : ∀ k, (Value.slice va6 (xs.length + 1) vc6).ownBlock = some k → w.heap.size ≤ k := hvf6 G.out G5 PP hvf hloc6; have G6 : GR r w av (w6.setCell ⟨x, 1, none⟩ (.slice va6 (xs.length + 1) vc6)) av5 := grew6 G.out G5 PP hvf hxw hgr6 _; have HC := rhas1_in _ r s _ av5 0 0 Y.st.rd 44; rw [isB_ok, hi5, h44] at HC)) | (go_at_call 31; refine FE.mono ?_; rintro e W ⟨rfl, R9, K9⟩) | (go_at_call 62; refine HD.mono ?_; rintro e w8 ⟨rfl, R8, K8⟩; rw [hasI_no (by rw [isB_ok, show bl s k2 = k2 from by rw [← hi5, bl_bl]]; exact h41), show bl s k2 = k2 from by rw [← hi5, bl_bl]] at R8; have Y8 := Y7.read K8 R8; have u1 := R8.c1; have FE : Calls Tryz.prog 31 #[.pointer (some ⟨r, 0, none⟩), .int .i64 ((2 : Nat) : Int), .int .i64 (k2 : Int)] w8 fun x w' => x = .returned (.tuple #[]) ∧ Rr w' r s k2 av5 2 k2 ∧ Kept1 r w8 w' := fail_in w8 r s _ av5 0 0 R8 2 k2) | (go_at_call 62; refine HC.mono ?_; rintro e w7 ⟨rfl, R7, K7⟩; rw [hasI_no (by rw [isB_ok, hi5]; exact h44), hi5] at R7; have Y7 := Y.read K7 R7; have HD := rhas1_in w7 r s _ av5 0 0 R7 41; rw [isB_ok, show bl s k2 = k2 from by rw [← hi5, bl_bl], h41] at HD))
            have X9 := Y8.read K9 R9
            have G9 := ((G6.kept1 K7).kept1 K8).kept1 K9
            have NV9 := NV.trans N5 G.out.kept.size
            have hr2 : res = .bad 2 k2 l2 := by rw [hres, hPA]
            have h5 : (xs ++ [n]).length ≤ 5 := by simp; omega
            clear X G NV hres
            have gen : ∃ (c q : Nat) (avc : Value) (lc : List Tm) (vsc : List Value) (xs : List Nat) (v : Value) (j : Nat) (lx : List Tm), 1 ≤ c ∧ xs.length ≤ 5 ∧ S2 W base r avc s j c q lc vsc x N xs v ∧ GR r w av W avc ∧ NewV w vs vsc ∧ res = .bad c q lx := ⟨2, k2, av5, l2, vs5, xs ++ [n], _, _, _, by omega, h5, X9, G9, NV9, hr2⟩
            clear X9 G9 NV9 hr2 h5 Y8 Y7 Y PP PA TM y1 rc0 rc1 rc3 p1 bc6 bf6 b6 HC HD FE hown6 hgr6 hloc6 d4 hPA hx S5 G5 N5 G6 R7 K7 R8 K8 R9 K9 u1 hv6 hvf hGc hx4
            obtain ⟨c, q, avc, lc, vsc, xs, v, j, lx, hc1, hx5, X, G, NV, rfl⟩ := gen
            obtain ⟨ca, cc, hcv⟩ := row_form X.arg
            subst hcv
            have rc2 := X.st.rd.c2
            have rc3 := X.st.rd.c3
            have y0 := X.c0
            have y1 := X.c1
            have dE : ((c : Int) != 0) = true := by simp; omega
            have CL : ∀ m, Calls Tryz.prog 63 #[avc, .agg #[.string N, .slice ca xs.length cc]] (W.drewN m) fun e w' => e = .returned (.bool (clashB lc ⟨N, xs⟩)) ∧ Kept0 (W.drewN m) w' := fun m => clashes_in (W.drewN m) base avc lc vsc (X.st.ls.drewN m) X.st.lo ⟨N, xs⟩ (.slice ca xs.length cc) X.arg (by simpa using hx5) X.st.four
            cases hcl : clashB lc ⟨N, xs⟩ with
            | false =>
              rw [hcl] at CL
              go_region_with (go_at_call 63; refine (CL _).mono ?_; rintro e w7 ⟨rfl, K7⟩; have X7 := (X.drewN _).kept0 K7; have e7 := X7.st.rd.c3)
              all_goals
                go_wp2_with fail
                go_ret
                exact ⟨rfl, avc, _, lc, vsc, X7.st, (G.step (Kept.drewN (Kept.refl (fun _ => False) W) _) (fun _ _ e => e.elim)).kept0 K7, NV⟩
            | true =>
              rw [hcl] at CL
              go_region_with (go_at_call 63; refine (CL _).mono ?_; rintro e w7 ⟨rfl, K7⟩; have X7 := (X.drewN _).kept0 K7; have FL := fail_in w7 r s _ avc c q X7.st.rd 5 (bl s i); rw [failE_err hc1, failA_err hc1] at FL)
              all_goals
                go_wp2_with (go_at_call 31; refine FL.mono ?_; rintro e w8 ⟨rfl, R8, K8⟩; have e8 := R8.c3)
                go_ret
                exact ⟨rfl, avc, _, lc, vsc, (X7.read K8 R8).st, ((G.step (Kept.drewN (Kept.refl (fun _ => False) W) _) (fun _ _ e => e.elim)).kept0 K7).kept1 K8, NV⟩

end Go.Proofs.YtlehlgipbhfioaaGreat
