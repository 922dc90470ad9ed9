/- The document's reader: Term, where nothing is wrong at its head. -/
import Derived.Test.YtlehlgipbhfioaaGreatRefG
namespace Go.Proofs.YtlehlgipbhfioaaGreat
open Go.RowKit

/-- Behind put: the list is laid into the reader. -/
theorem S1.stored {w w' : World} {base r : Nat} {av av' : Value} {s : ByteArray} {i e a : Nat} {l l' : List Tm} {vs vs' : List Value} (h : S1 w base r av s i e a l vs) (K : Kept (fun k => av.ownBlock = some k) w w') (L : Ls w' base av' l' vs') (hlo : l'.length ≤ 1000) (h4 : ∀ u ∈ l', u.args.length ≤ 4) :
    S1 (w'.setCell ⟨r, 2, none⟩ av') base r av' s i e a l' vs' := by
  have R : Rr w' r s i av e a := h.rd.of_block (K.block r h.rd.row.lt (row_ne h.ls.row h.rd.row (by decide)))
  have K2 : Kept1 r w' (w'.setCell ⟨r, 2, none⟩ av') := Kept1.set (Kept.refl _ w') _ _
  refine ⟨R.list av', L.blocks (fun b hb => K2.block b (row_lt L.row hb) (fun x => row_ne L.row R.row (by decide) (x ▸ hb))) (fun u hu b hb => ?_), Nat.le_trans h.bs (Nat.le_trans K.size K2.size), hlo, h4⟩
  obtain ⟨xs, hx⟩ := L.mem hu
  exact K2.block b (row_lt hx hb) (fun x => row_ne hx R.row (by decide) (x ▸ hb))

theorem putV_mem {l : List Tm} {t : Tm} {vs : List Value} {v u : Value} (h : u ∈ putV l t vs v) : u ∈ vs ∨ u = v := by
  unfold putV at h
  cases hn : nix l t with
  | some _ => rw [hn] at h; exact Or.inl h
  | none => rw [hn] at h; simpa using h
theorem addL_mem {l : List Tm} {t u : Tm} (h : u ∈ addL l t) : u ∈ l ∨ u = t := by
  unfold addL at h
  cases hn : nix l t with
  | some _ => rw [hn] at h; exact Or.inl h
  | none => rw [hn] at h; simpa using h

set_option maxHeartbeats 8000000 in
set_option maxRecDepth 100000 in
theorem rterm_plain (f : Nat) (w : World) (base r : Nat) (av : Value) (s : ByteArray) (i : Nat) (l : List Tm) (vs : List Value) (deep : Nat) (h : S1 w base r av s i 0 0 l vs) (hGo : Good l) (_hf : 2 * (s.size - bl s i) + 1 ≤ f + 1) (hb : l.length + (s.size - bl s i) ≤ 600) (hab : ¬ 12 < deep) (hbad : badNm s (bl s i) = false) (hst : stands s (bl s (nmE s (bl s i))) 40 = false) :
    Calls Tryz.prog 29 #[.pointer (some ⟨r, 0, none⟩), .int .i64 (deep : Int)] w (RPost w base r av s vs (pTerm s (f + 1) deep (bl s i) l)) := by
  have hsm := h.rd.small
  have hple := bl_le h.rd.le
  have NM := rname_in w r s i av 0 0 h.rd
  generalize hres : pTerm s (f + 1) deep (bl s i) l = res
  rw [pTerm] at hres
  unfold NmPost at NM
  rw [hbad] at NM hres
  rw [if_neg (by simp), if_neg hab] at hres
  simp only [Bool.false_eq_true, if_false] at NM
  have hnl := nm_lt hbad
  have hne := nmE_le hple
  have hbe := bl_ge s (nmE s (bl s i))
  have hbel := bl_le hne
  have NM2 : Calls Tryz.prog 61 #[.pointer (some ⟨r, 0, none⟩)] w fun x w' => x = .returned (.tuple #[.string (s.extract (bl s i) (nmE s (bl s i))), .int .i64 (bl s i : Int)]) ∧ S1 w' base r av s (nmE s (bl s i)) 0 0 l vs ∧ GR r w av w' av := NM.mono fun x w' hP => ⟨hP.1, h.read hP.2.1 hP.2.2, (GR.refl r w av).kept1 hP.2.1⟩
  clear NM
  generalize s.extract (bl s i) (nmE s (bl s i)) = N at *
  have d12 : ¬ (12 : Int) < (deep : Int) := by omega
  go_enter Tryz.func29, Tryz.ntmps29
  rw [hst, if_neg (by simp)] at hres
  replace hres := hres.symm
  go_wp2_with (first | (go_at_call 61; refine NM2.mono ?_; rintro e w3 ⟨rfl, S3, G2⟩; have X3 := S3.boxed N; have HA := rhas1_in _ r s _ av 0 0 X3.st.rd 40; rw [isB_ok, hst] at HA) | (go_at_call 62; refine HA.mono ?_; rintro e W ⟨rfl, R4, K4⟩))
  rw [hasI_no (by rw [isB_ok]; exact hst)] at R4
  have X : S2 W base r av s _ 0 0 l vs w3.heap.size N [] (.slice none 0 0) := X3.read K4 R4
  have G : GR r w av W av := (G2.kept0 (Kept.alloc (Kept.refl _ w3) _)).kept1 K4
  have NV := NewV.refl w vs
  clear HA R4 K4 X3
  generalize w3.heap.size = x at *
  have gen : ∃ (avc : Value) (lc : List Tm) (vsc : List Value) (xs : List Nat) (v : Value) (j : Nat), xs.length ≤ 4 ∧ S2 W base r avc s j 0 0 lc vsc x N xs v ∧ GR r w av W avc ∧ NewV w vs vsc ∧ (∀ k, v.ownBlock = some k → w.heap.size ≤ k) ∧ Good lc ∧ lc.length < 1000 ∧ res = pEnd ⟨N, xs⟩ (bl s i) (bl s j) lc := ⟨av, l, vs, [], .slice none 0 0, bl s (nmE s (bl s i)), by simp, X, G, NV, by simp [Value.ownBlock], hGo, by omega, by rw [bl_bl]; exact hres⟩
  clear X G NV hres
  obtain ⟨avc, lc, vsc, xs, v, j, hx4, X, G, NV, hvf, hGc, hlc, hres⟩ := gen
  obtain ⟨ca, cc, hcv⟩ := row_form X.arg
  subst hcv
  have rc2 := X.st.rd.c2
  have rc3 := X.st.rd.c3
  have y0 := X.c0
  have y1 := X.c1
  have CL : ∀ m, Calls Tryz.prog 63 #[avc, .agg #[.string N, .slice ca xs.length cc]] (W.drewN m) fun e w' => e = .returned (.bool (clashB lc ⟨N, xs⟩)) ∧ Kept0 (W.drewN m) w' := fun m => clashes_in (W.drewN m) base avc lc vsc (X.st.ls.drewN m) X.st.lo ⟨N, xs⟩ (.slice ca xs.length cc) X.arg (by simp; omega) X.st.four
  cases hcl : clashB lc ⟨N, xs⟩ with
  | true =>
    rw [hcl] at CL
    have hfit : fitsB lc ⟨N, xs⟩ = false := by have := clash_fits hGc ⟨N, xs⟩; rw [hcl] at this; simpa using this.symm
    have hr2 : res = .bad 5 (bl s i) lc := by rw [hres, pEnd, hfit]; rfl
    clear hres
    subst hr2
    go_region_with (go_at_call 63; refine (CL _).mono ?_; rintro e w7 ⟨rfl, K7⟩; have X7 := (X.drewN _).kept0 K7; have FL : Calls Tryz.prog 31 #[.pointer (some ⟨r, 0, none⟩), .int .i64 ((5 : Nat) : Int), .int .i64 (bl s i : Int)] w7 fun x w' => x = .returned (.tuple #[]) ∧ Rr w' r s _ avc 5 (bl s i) ∧ Kept1 r w7 w' := fail_in w7 r s _ avc 0 0 X7.st.rd 5 (bl s i))
    all_goals
      go_wp2_with (go_at_call 31; refine FL.mono ?_; rintro e w8 ⟨rfl, R8, K8⟩; have e8 := R8.c3)
      go_ret
      exact ⟨rfl, avc, _, lc, vsc, (X7.read K8 R8).st, ((G.step (Kept.drewN (Kept.refl (fun _ => False) W) _) (fun _ _ e => e.elim)).kept0 K7).kept1 K8, NV⟩
  | false =>
    rw [hcl] at CL
    have hfit : fitsB lc ⟨N, xs⟩ = true := by have := clash_fits hGc ⟨N, xs⟩; rw [hcl] at this; simpa using this.symm
    have hr2 : res = .ok (addN lc ⟨N, xs⟩) (bl s j) (addL lc ⟨N, xs⟩) := by rw [hres, pEnd, hfit]; rfl
    clear hres
    subst hr2
    go_region_with (go_at_call 63; refine (CL _).mono ?_; rintro e w7 ⟨rfl, K7⟩; have X7 := (X.drewN _).kept0 K7; have e7 := X7.st.rd.c3; have e72 := X7.st.rd.c2; have z0 := X7.c0; have z1 := X7.c1)
    all_goals
      clear rc2 rc3 y0 y1 CL
      have PUT : ∀ m, Calls Tryz.prog 64 #[avc, .agg #[.string N, .slice ca xs.length cc]] (w7.drewN m) (PutPost (w7.drewN m) base avc lc vsc ⟨N, xs⟩ (.slice ca xs.length cc)) := fun m => put_in (w7.drewN m) base avc lc vsc (X7.st.ls.drewN m) X7.st.lo ⟨N, xs⟩ (.slice ca xs.length cc) X7.arg X7.st.four X7.st.bs
      go_wp2_with fail
      go_region_with (go_at_call 64; refine (PUT _).mono ?_; rintro e w9 ⟨av9, rfl, L9, K9, loc9⟩; have R9 : Rr w9 r s _ avc 0 0 := (X7.st.rd.drewN _).of_block (K9.block r X7.st.rd.row.lt (row_ne X7.st.ls.row X7.st.rd.row (by decide))); have q2 := R9.c2; have q3 := R9.row.frozen 2; obtain ⟨pa, pc, hpv⟩ := L9.form; subst hpv)
      all_goals
        go_wp2_with fail
        go_ret
        have SS := (X7.st.drewN _).stored K9 L9 (by have := addL_len lc ⟨N, xs⟩; omega) (fun u hu => by
          rcases addL_mem hu with y | y
          · exact X7.st.four u y
          · rw [y]; exact hx4)
        have GB := ((G.step (Kept.drewN (Kept.refl (fun _ => False) W) 1) (fun _ _ e => e.elim)).kept0 K7)
        have GC := (GB.step (Kept.drewN (Kept.refl (fun _ => False) w7) 1) (fun _ _ e => e.elim)).step K9 (fun k _ e => Or.inr (Or.inl e))
        have hsz : w.heap.size ≤ w7.heap.size := GB.kept.size
        refine ⟨rfl, _, j, _, SS, rfl, ⟨(GC.step (Kept1.set (nb := r) (Kept.refl _ w9) 2 _) (fun _ _ e => Or.inl e)).kept, ?_⟩, ?_⟩
        · rcases loc9 with e | e
          · rcases G.row with e2 | e2
            · exact Or.inl (e.trans e2)
            · exact Or.inr fun k hk => e2 k (e ▸ hk)
          · exact Or.inr fun k hk => Nat.le_trans hsz (e k hk)
        · intro u hu
          rcases putV_mem hu with y | y
          · exact NV u y
          · rw [y]; exact Or.inr hvf

end Go.Proofs.YtlehlgipbhfioaaGreat
