/- Package logic: the parser and its bank; term. -/
import Derived.Test.YtlehlgipbhfioaaGreatP25
import Derived.Test.YtlehlgipbhfioaaGreatP19
namespace Go.Proofs.YtlehlgipbhfioaaGreat
open Go.RowKit Go.Maps

theorem clo_bds (s : ByteArray) : ∀ (m k o : Nat), s.size - k ≤ m → k ≤ s.size → k ≤ clo s k o ∧ clo s k o ≤ s.size
  | 0, k, o, hm, hk => by rw [clo_out (by omega)]; omega
  | m + 1, k, o, hm, hk => by
    by_cases h : k < s.size
    · rw [clo_in h]
      by_cases h0 : (if byt s k = 40 then o + 1 else if byt s k = 41 then o - 1 else o) = 0
      · rw [if_pos h0]; omega
      · rw [if_neg h0]
        have := clo_bds s m (k + 1) (if byt s k = 40 then o + 1 else if byt s k = 41 then o - 1 else o) (by omega) (by omega)
        omega
    · rw [clo_out h]; omega
theorem clo_bd {s : ByteArray} {k o : Nat} (hk : k ≤ s.size) : k ≤ clo s k o ∧ clo s k o ≤ s.size := clo_bds s _ k o (Nat.le_refl _) hk

theorem tEnd_bd {s : ByteArray} {i : Nat} (hi : i ≤ s.size) : i ≤ tEnd s i ∧ tEnd s i ≤ s.size := by
  have h1 := nmE_ge s i
  have h2 := nmE_le hi
  have h3 := bl_ge s (nmE s i)
  have h4 := bl_le h2
  unfold tEnd
  split
  · have := clo_bd (o := 0) h4
    omega
  · omega

theorem pRead_pos {s : ByteArray} {l : List Tm} (h : (pRead s l).2.1 = 0) : 0 < s.size := by
  unfold pRead at h
  split at h
  · omega
  · unfold pWhole at h
    have hbl := bl_le (s := s) (i := 0) (by omega)
    split at h
    · next c q l' hx =>
      have hc : c = 0 := h
      subst hc
      have h9 := hx
      clear h
      refine Decidable.byContradiction fun hn => ?_
      have hz : s.size = 0 := by omega
      have hb : bl s 0 = 0 := by omega
      rw [hb, hz, pTerm] at h9
      have : badNm s 0 = true := by
        have : nmE s 0 = 0 := nmE_end (fun x => by omega)
        simp [badNm, this]
      rw [if_pos this] at h9
      injection h9 with h9 _ _
      omega
    · next n k l' hx =>
      have := ((p_grows s (2 * s.size + 1)).1 0 (bl s 0) l hbl).2 n k l' hx
      omega

theorem pRead_few {s : ByteArray} {l : List Tm} (h : l.length ≤ 150) : (pRead s l).2.2.2.length ≤ 150 := by
  unfold pRead pWhole
  split
  · exact h
  · split
    · exact h
    · split
      · exact h
      · split
        · exact h
        · simp; omega

/-- Where an error stands. -/
theorem p_place (s : ByteArray) : ∀ f : Nat, (∀ above i l e q l', i ≤ s.size → pTerm s f above i l = .bad e q l' → q ≤ s.size) ∧
    (∀ above i l xs e q l', i ≤ s.size → pArgs s f above i l xs = .bad e q l' → q ≤ s.size)
  | 0 => ⟨fun _ _ _ _ _ _ _ e => (by rw [pTerm] at e; injection e; omega), fun _ _ _ _ _ _ _ _ e => (by rw [pArgs] at e; injection e; omega)⟩
  | f + 1 => by
    obtain ⟨IT, IA⟩ := p_place s f
    obtain ⟨GT, GA⟩ := p_grows s f
    constructor
    · intro above i l e q l' hi h
      rw [pTerm] at h
      split at h
      · injection h; omega
      · next hb =>
        have h2 := nmE_le hi
        have h4 := bl_le h2
        split at h
        · injection h; omega
        · split at h
          · have h6 := behind_le (c := 40) h4
            split at h
            · next e2 p2 l2 hx =>
              have := IA _ _ _ _ _ _ _ h6 hx
              injection h; omega
            · unfold pEnd at h
              split at h
              · cases h
              · injection h; omega
          · unfold pEnd at h
            split at h
            · cases h
            · injection h; omega
    · intro above i l xs e q l' hi h
      rw [pArgs] at h
      split at h
      · injection h; omega
      · split at h
        · injection h; omega
        · split at h
          · next e2 p2 l2 hx =>
            have := IT _ _ _ _ _ _ hi hx
            injection h; omega
          · next n k l2 hx =>
            obtain ⟨B2, B3⟩ := (GT above i l hi).2 n k l2 hx
            split at h
            · cases h
            · split at h
              · exact IA _ _ _ _ _ _ _ (behind_le B3) h
              · injection h; omega

theorem pRead_place {s : ByteArray} {l : List Tm} : (pRead s l).2.2.1 ≤ s.size := by
  unfold pRead pWhole
  have hbl := bl_le (s := s) (i := 0) (by omega)
  split
  · simp
  · split
    · next c q l' hx => exact (p_place s _).1 _ _ _ _ _ _ hbl hx
    · next n k l' hx =>
      have := ((p_grows s (2 * s.size + 1)).1 0 (bl s 0) l hbl).2 n k l' hx
      split
      · simp; omega
      · split <;> simp

/-- What term answers. -/
def lTerm (s : ByteArray) (i : Nat) (l : List Tm) : Res Nat :=
  if (pRead (s.extract i (tEnd s i)) l).2.1 = 0 then .ok (pRead (s.extract i (tEnd s i)) l).1 (bl s (tEnd s i)) (pRead (s.extract i (tEnd s i)) l).2.2.2
  else .bad (pRead (s.extract i (tEnd s i)) l).2.1 (i + (pRead (s.extract i (tEnd s i)) l).2.2.1) (pRead (s.extract i (tEnd s i)) l).2.2.2

theorem lTerm_ok {s : ByteArray} {i : Nat} {l : List Tm} (hi : i ≤ s.size) {n k : Nat} {l' : List Tm} (h : lTerm s i l = .ok n k l') : i < k ∧ k ≤ s.size := by
  unfold lTerm at h
  split at h
  · next h0 =>
    have := pRead_pos h0
    obtain ⟨h1, h2⟩ := tEnd_bd hi
    rw [ext_size h1 h2] at this
    injection h with _ e _
    have h3 := bl_ge s (tEnd s i)
    have h4 := bl_le h2
    omega
  · cases h

/-- A parser at r over the bank at p. -/
structure PB (w : World) (base r p : Nat) (ev : Value) (nb fb : Nat) (s : ByteArray) (i d : Nat) (l : List Tm) : Prop where
  lp : Lp w r (.pointer (some ⟨p, 0, none⟩)) s i d
  bk : Bk w base p ev nb fb l
  rp : r ≠ p
  rn : r ≠ nb
  rf : r ≠ fb
  er : ev.ownBlock ≠ some r
  bs : base ≤ w.heap.size
  few : l.length ≤ 150

/-- The parser alone has gone on. -/
theorem PB.read {w w' : World} {base r p : Nat} {ev : Value} {nb fb : Nat} {s : ByteArray} {i k d d' : Nat} {l : List Tm} (h : PB w base r p ev nb fb s i d l) (K : Kept1 r w w') (hR : Lp w' r (.pointer (some ⟨p, 0, none⟩)) s k d') :
    PB w' base r p ev nb fb s k d' l ∧ Grew (fun k => k = r) p nb fb w ev w' ev :=
  ⟨⟨hR, h.bk.kept1 K (Ne.symm h.rp) (Ne.symm h.rn) (Ne.symm h.rf) h.er, h.rp, h.rn, h.rf, h.er, Nat.le_trans h.bs K.size, h.few⟩, ⟨Kept.mono K (fun _ _ e => Or.inl e), Or.inl rfl⟩⟩
/-- The bank alone has changed. -/
theorem PB.banked {w w' : World} {base r p : Nat} {ev ev' : Value} {nb fb : Nat} {s : ByteArray} {i d : Nat} {l l' : List Tm} (h : PB w base r p ev nb fb s i d l) (K : Kept (BFoot p ev nb fb) w w') (hB : Bk w' base p ev' nb fb l') (hr : ev'.ownBlock = ev.ownBlock ∨ ∀ k, ev'.ownBlock = some k → w.heap.size ≤ k) (hf : l'.length ≤ 150) :
    PB w' base r p ev' nb fb s i d l' ∧ Grew (fun k => k = r) p nb fb w ev w' ev' := by
  have hrl := h.lp.row.lt
  refine ⟨⟨h.lp.of_block (K.block r hrl ?_), hB, h.rp, h.rn, h.rf, ?_, Nat.le_trans h.bs K.size, hf⟩, ⟨Kept.mono K (fun _ _ e => Or.inr e), hr⟩⟩
  · rintro (e | e | e | e)
    · exact h.rp e
    · exact h.rn e
    · exact h.rf e
    · exact h.er e
  · rcases hr with e | e
    · rw [e]; exact h.er
    · intro e2
      have := e r e2
      omega
theorem PB.kept0 {w w' : World} {base r p : Nat} {ev : Value} {nb fb : Nat} {s : ByteArray} {i d : Nat} {l : List Tm} (h : PB w base r p ev nb fb s i d l) (K : Kept0 w w') : PB w' base r p ev nb fb s i d l ∧ Grew (fun k => k = r) p nb fb w ev w' ev :=
  h.banked (Kept.mono K (fun _ _ e => e.elim)) (h.bk.kept0 K) (Or.inl rfl) h.few
theorem PB.drewN {w : World} {base r p : Nat} {ev : Value} {nb fb : Nat} {s : ByteArray} {i d : Nat} {l : List Tm} (h : PB w base r p ev nb fb s i d l) (m : Nat) : PB (w.drewN m) base r p ev nb fb s i d l :=
  ⟨h.lp.drewN m, h.bk.drewN m, h.rp, h.rn, h.rf, h.er, h.bs, h.few⟩

/-- What term leaves. -/
def LTermPost (base r p nb fb : Nat) (s : ByteArray) (d : Nat) (w : World) (ev : Value) : Res Nat → Ending → World → Prop
  | .ok n k l', e, w' => e = .returned (.int .i64 (n : Int)) ∧ ∃ ev', PB w' base r p ev' nb fb s k d l' ∧ Grew (fun k => k = r) p nb fb w ev w' ev'
  | .bad c q l', e, w' => e = .panicked [{ v := grefusalV c q, recovered := false }] ∧ ∃ ev' k, PB w' base r p ev' nb fb s k d l' ∧ Grew (fun k => k = r) p nb fb w ev w' ev'

set_option maxRecDepth 100000 in
set_option maxHeartbeats 4000000 in
theorem lterm_in (w : World) (base r p : Nat) (ev : Value) (nb fb : Nat) (s : ByteArray) (i d : Nat) (l : List Tm) (h : PB w base r p ev nb fb s i d l) :
    Calls Tryz.prog 251 #[.pointer (some ⟨r, 0, none⟩)] w (LTermPost base r p nb fb s d w ev (lTerm s i l)) := by
  have hle := h.lp.le
  have hsm := h.lp.small
  obtain ⟨hte1, hte2⟩ := tEnd_bd hle
  have TE := termEnd_in w r p s i d h.lp
  have HP : Hid (∀ W, Kept0 w W → PB W base r p ev nb fb s i d l ∧ Grew (fun k => k = r) p nb fb w ev W ev) := fun W K => h.kept0 K
  have HB : Hid (lTerm s i l = _) := lTerm.eq_1 s i l
  have hx : (s.extract i (tEnd s i)).size ≤ 400 := by rw [ext_size hte1 hte2]; omega
  have RD : Hid (∀ W, PB W base r p ev nb fb s i d l → ∀ m, Calls Tryz.prog 13 #[.pointer (some ⟨p, 0, none⟩), .string (s.extract i (tEnd s i))] (W.drewN m) fun e w' => e = .returned (.tuple #[.int .i64 ((pRead (s.extract i (tEnd s i)) l).1 : Int), .int .i64 ((pRead (s.extract i (tEnd s i)) l).2.1 : Int), .int .i64 ((pRead (s.extract i (tEnd s i)) l).2.2.1 : Int)]) ∧
      ∃ ev', PB w' base r p ev' nb fb s i d (pRead (s.extract i (tEnd s i)) l).2.2.2 ∧ Grew (fun k => k = r) p nb fb W ev w' ev') := fun W P m => (tRead_in (W.drewN m) base p ev nb fb l (P.bk.drewN m) P.few P.bs (s.extract i (tEnd s i))).mono (by
    rintro e w' ⟨h1, ev', h2, h3, h4⟩
    obtain ⟨Q1, Q2⟩ := (P.drewN m).banked h3 h2 h4 (pRead_few P.few)
    exact ⟨h1, ev', Q1, Grew.trans ((Grew.refl _ p nb fb W ev).drewN m) Q2⟩)
  have hbt := bl_le hte2
  go_enter Tryz.func251, Tryz.ntmps251
  generalize hT : tEnd s i = t at *
  generalize hX : s.extract i t = X at *
  generalize hR : pRead X l = R at *
  obtain ⟨n, c, q, l'⟩ := R
  have hq : q ≤ 400 := by
    have := pRead_place (s := X) (l := l)
    rw [hR] at this
    exact Nat.le_trans this hx
  clear hR
  go_wp2_with (first | (go_at_call 256; refine TE.mono ?_; rintro e w2 ⟨rfl, K2⟩; obtain ⟨P2, G2⟩ := HP.out w2 K2; have c0 := P2.lp.c0; have c1 := P2.lp.c1; have c2 := P2.lp.c2))
  have RD2 := RD.out w2 P2
  clear RD HP TE h
  go_region_with (go_at_call 13; refine (RD2 1).mono ?_; rintro e w3 ⟨rfl, ev3, P3, G3⟩)
  all_goals
    clear RD2 c0 c1 c2
    simp only [Act.put, List.getElem_toArray, List.getElem_cons_succ, List.getElem_cons_zero, List.setIfInBounds_toArray, List.set_cons_succ, List.set_cons_zero]
    have d2 := P3.lp.c2
    by_cases hc : c = 0
    · have dne : ((c : Int) != 0) = false := by simp; omega
      have dne' : (c : Int) = 0 := by omega
      have HB2 : Hid (lTerm s i l = .ok n (bl s t) l') := by have := HB.out; rw [if_pos hc] at this; exact this
      have f2 := P3.lp.row.frozen 2
      have L4 := P3.lp.step (k := t) hte2
      have P4 := P3.read (Kept1.set (Kept.refl _ w3) 2 (.int .i64 (t : Int))) L4
      have BL := gblanks_in _ r _ s t d L4
      have HH : Hid (_ ∧ _ ∧ _ ∧ _) := ⟨G2, G3, P4.1, P4.2⟩
      clear HB G2 G3 P4 P2 P3 L4
      go_wp2_with (first | (go_at_call 67; refine BL.mono ?_; rintro e w5 ⟨rfl, L5, K5⟩))
      go_ret
      obtain ⟨G2, G3, P4, G4⟩ := HH.out
      obtain ⟨P5, G5⟩ := P4.read K5 L5
      rw [HB2.out]
      exact ⟨rfl, ev3, P5, ((G2.trans G3).trans G4).trans G5⟩
    · have dne : ((c : Int) != 0) = true := by simp; omega
      have dne' : ¬ (c : Int) = 0 := by omega
      have HB2 : Hid (lTerm s i l = .bad c (i + q) l') := by have := HB.out; rw [if_neg hc] at this; exact this
      have HH : Hid (_ ∧ _ ∧ _) := ⟨G2, G3, P3⟩
      clear HB G2 G3 P2 P3
      go_wp2_with (first | (go_at_call 69; refine (grefuse_any _ _ _).mono ?_; rintro e w4 ⟨rfl, rfl⟩))
      obtain ⟨G2, G3, P3⟩ := HH.out
      refine ⟨rfl, ?_⟩
      rw [HB2.out]
      exact ⟨by simp, ev3, i, P3, G2.trans G3⟩

end Go.Proofs.YtlehlgipbhfioaaGreat
