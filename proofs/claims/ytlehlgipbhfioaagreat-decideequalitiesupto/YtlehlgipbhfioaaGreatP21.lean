/- The document's reader: name. The document's reader against the parser: what is wanted, plainly. The document's reader: Term. The document's reader: Term, where nothing is wrong at its head. The document's reader: Term with a bracket. -/
import Derived.Test.YtlehlgipbhfioaaGreatP19
import Derived.Test.YtlehlgipbhfioaaGreatP20
import Derived.Deep.CutRange
namespace Go.Proofs.YtlehlgipbhfioaaGreat
open Go.RowKit

def NmPost (w : World) (r : Nat) (av : Value) (s : ByteArray) (i e a : Nat) (x : Ending) (w' : World) : Prop :=
  x = .returned (.tuple #[.string (s.extract (bl s i) (nmE s (bl s i))), .int .i64 (bl s i : Int)]) ∧ Kept1 r w w' ∧
    (if badNm s (bl s i) = true then Rr w' r s (nmE s (bl s i)) av (failE e 2) (failA e a (bl s i)) else Rr w' r s (nmE s (bl s i)) av e a)

set_option maxHeartbeats 4000000 in
theorem rname_in (w : World) (r : Nat) (s : ByteArray) (i : Nat) (av : Value) (e a : Nat) (h : Rr w r s i av e a) :
    Calls Tryz.prog 61 #[.pointer (some ⟨r, 0, none⟩)] w (NmPost w r av s i e a) := by
  have hs := h.small
  have BL := rblanks_in w r s i av e a h
  have hple := bl_le h.le
  unfold NmPost
  generalize hpp : bl s i = p at *
  go_enter Tryz.func61, Tryz.ntmps61
  go_wp2_with (go_at_call 30; refine BL.mono ?_; rintro e w2 ⟨rfl, R2, K2⟩; have c1 := R2.c1)
  go_loopw [] (fun W => ∃ k : Nat, Rr W r s k av e a ∧ Hid (nmE s k = nmE s p) ∧ Hid (Kept1 r w W)) (fun W => s.size - (match W.cell? ⟨r, 1, none⟩ with | some v => (intOf v).toNat | none => 0))
  case atStart => exact ⟨p, R2, rfl, K2⟩
  case round =>
    obtain ⟨k, hR, hb, hK⟩ := hrel
    clear c1 R2 K2 BL
    have c0 := hR.c0
    have c1 := hR.c1
    have f1 := hR.row.frozen 1
    have hle := hR.le
    by_cases h1 : k < s.size
    · have d1 : decide ((k : Int) < s.size) = true := decide_eq_true (by omega)
      have LET : ∀ m, Calls Tryz.prog 106 #[.int .u8 ((s[k]).toNat : Nat)] (wr.drewN m) fun e w' => e = .returned (.bool (isLet (byt s k))) ∧ w' = wr.drewN m := fun m => (rletter_any _ _).mono fun _ _ x => ⟨by rw [x.1, byt_lt h1], x.2.symm⟩
      have DIG : ∀ m, Calls Tryz.prog 107 #[.int .u8 ((s[k]).toNat : Nat)] (wr.drewN m) fun e w' => e = .returned (.bool (isDig (byt s k))) ∧ w' = wr.drewN m := fun m => (rdigit_any _ _).mono fun _ _ x => ⟨by rw [x.1, byt_lt h1], x.2.symm⟩
      cases hl : isLet (byt s k) with
      | true =>
        rw [hl] at LET
        have hn : isNm (byt s k) = true := by simp [isNm, hl]
        go_wp2_with fail
        go_quiet ((go_at_call 106; exact Calls.quiet_of_same (LET _)))
        go_wp2_with fail
        refine ⟨⟨k + 1, ?_, (nmE_at h1 hn).symm.trans hb, Kept1.set (hK.drewN _) _ _⟩, ?_⟩
        · have := (hR.drewN nq).step (k := k + 1) (by omega)
          simpa using this
        · have hn := ((hR.drewN nq).step (k := k + 1) (by omega)).c1
          have hn' : ((wr.drewN nq).setCell ⟨r, 1, none⟩ (.int .i64 ((k : Int) + 1))).cell? ⟨r, 1, none⟩ = some (.int .i64 ((k : Int) + 1)) := by simpa using hn
          rw [c1, hn']
          simp only [intOf]
          omega
      | false =>
        rw [hl] at LET
        cases hd : isDig (byt s k) with
        | true =>
          rw [hd] at DIG
          have hn : isNm (byt s k) = true := by simp [isNm, hd]
          go_wp2_with fail
          go_quiet ((first | (go_at_call 106; exact Calls.quiet_of_same (LET _)) | (go_at_call 107; exact Calls.quiet_of_same (DIG _))))
          go_wp2_with fail
          refine ⟨⟨k + 1, ?_, (nmE_at h1 hn).symm.trans hb, Kept1.set (hK.drewN _) _ _⟩, ?_⟩
          · have := (hR.drewN nq).step (k := k + 1) (by omega)
            simpa using this
          · have hn := ((hR.drewN nq).step (k := k + 1) (by omega)).c1
            have hn' : ((wr.drewN nq).setCell ⟨r, 1, none⟩ (.int .i64 ((k : Int) + 1))).cell? ⟨r, 1, none⟩ = some (.int .i64 ((k : Int) + 1)) := by simpa using hn
            rw [c1, hn']
            simp only [intOf]
            omega
        | false =>
          rw [hd] at DIG
          have hn : isNm (byt s k) = false := by simp [isNm, hl, hd]
          go_wp2_with fail
          go_quiet ((first | (go_at_call 106; exact Calls.quiet_of_same (LET _)) | (go_at_call 107; exact Calls.quiet_of_same (DIG _))))
          have hE : nmE s p = k := hb.symm.trans (nmE_end (fun x => by have := x.2; rw [hn] at this; cases this))
          have hpk : p ≤ k := hE ▸ nmE_ge s p
          have FAIL := fun m => fail_in (wr.drewN m) r s k av e a (hR.drewN m) 2 p
          have hKn : ∀ m, Kept1 r w (wr.drewN m) := fun m => Kept.drewN hK m
          have hRn := hR.drewN
          clear hb hK
          by_cases hA : p = k
          · have hbad : badNm s p = true := by rw [badNm, hE]; simp [hA]
            subst hA
            go_wp2_with (go_at_call 31; refine (FAIL _).mono ?_; rintro e w3 ⟨rfl, R3, K3⟩; have c03 := R3.c0; have c13 := R3.c1)
            go_quiet (fail)
            go_wp2_with fail
            go_ret2
            try rw [hE]
            exact ⟨rfl, Kept.drewN (Kept.trans (hKn _) K3) _, by first | exact R3.drewN _ | (rw [if_pos hbad]; exact R3.drewN _)⟩
          · have dA : ((k : Int) == (p : Int)) = false := beq_eq_false_iff_ne.2 (by omega)
            have hps : p < s.size := by omega
            have DIG2 : ∀ m, Calls Tryz.prog 107 #[.int .u8 ((s[p]).toNat : Nat)] (wr.drewN m) fun e w' => e = .returned (.bool (isDig (byt s p))) ∧ w' = wr.drewN m := fun m => (rdigit_any _ _).mono fun _ _ x => ⟨by rw [x.1, byt_lt hps], x.2.symm⟩
            cases hD : isDig (byt s p) with
            | true =>
              rw [hD] at DIG2
              have hbad : badNm s p = true := by simp [badNm, hD]
              go_wp2_with (first | (go_at_call 107; refine (DIG2 _).mono ?_; rintro e w2 ⟨rfl, rfl⟩) | (go_at_call 31; refine (FAIL _).mono ?_; rintro e w3 ⟨rfl, R3, K3⟩; have c03 := R3.c0; have c13 := R3.c1))
              go_quiet (fail)
              go_wp2_with fail
              go_ret2
              try rw [hE]
              exact ⟨rfl, Kept.drewN (Kept.trans (hKn _) K3) _, by first | exact R3.drewN _ | (rw [if_pos hbad]; exact R3.drewN _)⟩
            | false =>
              rw [hD] at DIG2
              by_cases hC : 6 < k - p
              · have dC : decide ((6 : Int) < (k : Int) - (p : Int)) = true := decide_eq_true (by omega)
                have hbad : badNm s p = true := by rw [badNm, hE]; simp [hC]
                go_wp2_with (first | (go_at_call 107; refine (DIG2 _).mono ?_; rintro e w2 ⟨rfl, rfl⟩) | (go_at_call 31; refine (FAIL _).mono ?_; rintro e w3 ⟨rfl, R3, K3⟩; have c03 := R3.c0; have c13 := R3.c1))
                go_quiet (fail)
                go_wp2_with fail
                go_ret2
                try rw [hE]
                exact ⟨rfl, Kept.drewN (Kept.trans (hKn _) K3) _, by first | exact R3.drewN _ | (rw [if_pos hbad]; exact R3.drewN _)⟩
              · have dC : decide ((6 : Int) < (k : Int) - (p : Int)) = false := decide_eq_false (by omega)
                have hbad : ¬ badNm s p = true := by rw [badNm, hE]; simp [hD]; omega
                go_wp2_with (first | (go_at_call 107; refine (DIG2 _).mono ?_; rintro e w2 ⟨rfl, rfl⟩))
                go_quiet (fail)
                go_wp2_with fail
                go_ret2
                try rw [hE]
                exact ⟨rfl, hKn _, by first | exact hRn _ | (rw [if_neg hbad]; exact hRn _)⟩
    · have d1 : decide ((k : Int) < s.size) = false := decide_eq_false (by omega)
      go_wp2_with fail
      go_quiet (fail)
      have hE : nmE s p = k := hb.symm.trans (nmE_end (fun x => h1 x.1))
      have hpk : p ≤ k := hE ▸ nmE_ge s p
      have FAIL := fun m => fail_in (wr.drewN m) r s k av e a (hR.drewN m) 2 p
      have hKn : ∀ m, Kept1 r w (wr.drewN m) := fun m => Kept.drewN hK m
      have hRn := hR.drewN
      clear hb hK
      by_cases hA : p = k
      · have hbad : badNm s p = true := by rw [badNm, hE]; simp [hA]
        subst hA
        go_wp2_with (go_at_call 31; refine (FAIL _).mono ?_; rintro e w3 ⟨rfl, R3, K3⟩; have c03 := R3.c0; have c13 := R3.c1)
        go_quiet (fail)
        go_wp2_with fail
        go_ret2
        try rw [hE]
        exact ⟨rfl, Kept.drewN (Kept.trans (hKn _) K3) _, by first | exact R3.drewN _ | (rw [if_pos hbad]; exact R3.drewN _)⟩
      · have dA : ((k : Int) == (p : Int)) = false := beq_eq_false_iff_ne.2 (by omega)
        have hps : p < s.size := by omega
        have DIG2 : ∀ m, Calls Tryz.prog 107 #[.int .u8 ((s[p]).toNat : Nat)] (wr.drewN m) fun e w' => e = .returned (.bool (isDig (byt s p))) ∧ w' = wr.drewN m := fun m => (rdigit_any _ _).mono fun _ _ x => ⟨by rw [x.1, byt_lt hps], x.2.symm⟩
        cases hD : isDig (byt s p) with
        | true =>
          rw [hD] at DIG2
          have hbad : badNm s p = true := by simp [badNm, hD]
          go_wp2_with (first | (go_at_call 107; refine (DIG2 _).mono ?_; rintro e w2 ⟨rfl, rfl⟩) | (go_at_call 31; refine (FAIL _).mono ?_; rintro e w3 ⟨rfl, R3, K3⟩; have c03 := R3.c0; have c13 := R3.c1))
          go_quiet (fail)
          go_wp2_with fail
          go_ret2
          try rw [hE]
          exact ⟨rfl, Kept.drewN (Kept.trans (hKn _) K3) _, by first | exact R3.drewN _ | (rw [if_pos hbad]; exact R3.drewN _)⟩
        | false =>
          rw [hD] at DIG2
          by_cases hC : 6 < k - p
          · have dC : decide ((6 : Int) < (k : Int) - (p : Int)) = true := decide_eq_true (by omega)
            have hbad : badNm s p = true := by rw [badNm, hE]; simp [hC]
            go_wp2_with (first | (go_at_call 107; refine (DIG2 _).mono ?_; rintro e w2 ⟨rfl, rfl⟩) | (go_at_call 31; refine (FAIL _).mono ?_; rintro e w3 ⟨rfl, R3, K3⟩; have c03 := R3.c0; have c13 := R3.c1))
            go_quiet (fail)
            go_wp2_with fail
            go_ret2
            try rw [hE]
            exact ⟨rfl, Kept.drewN (Kept.trans (hKn _) K3) _, by first | exact R3.drewN _ | (rw [if_pos hbad]; exact R3.drewN _)⟩
          · have dC : decide ((6 : Int) < (k : Int) - (p : Int)) = false := decide_eq_false (by omega)
            have hbad : ¬ badNm s p = true := by rw [badNm, hE]; simp [hD]; omega
            go_wp2_with (first | (go_at_call 107; refine (DIG2 _).mono ?_; rintro e w2 ⟨rfl, rfl⟩))
            go_quiet (fail)
            go_wp2_with fail
            go_ret2
            try rw [hE]
            exact ⟨rfl, hKn _, by first | exact hRn _ | (rw [if_neg hbad]; exact hRn _)⟩

end Go.Proofs.YtlehlgipbhfioaaGreat

namespace Go.Proofs.YtlehlgipbhfioaaGreat
open Go.RowKit

/-- Names have one number of args each, at most 4. -/
structure Good (l : List Tm) : Prop where
  one : ∀ t ∈ l, ∀ u ∈ l, t.name = u.name → t.args.length = u.args.length
  four : ∀ t ∈ l, t.args.length ≤ 4

theorem fst_none' {l : List Tm} {n : ByteArray} (h : fst l n = none) : ∀ u ∈ l, u.name ≠ n := by
  intro u hu
  have := List.findIdx?_eq_none_iff.1 h u hu
  simpa using this

theorem clash_fits {l : List Tm} (h : Good l) (t : Tm) : clashB l t = !fitsB l t := by
  unfold fitsB
  cases hf : fst l t.name with
  | none =>
    have h1 := fst_none' hf
    have : clashB l t = false := List.any_eq_false.2 fun u hu => by simp [clashP, h1 u hu]
    simp [this]
  | some i =>
    obtain ⟨u, hu, hun⟩ := fst_some hf
    have hum := List.mem_of_getElem? hu
    simp only [hu]
    by_cases hq : u.args.length = t.args.length
    · have : clashB l t = false := List.any_eq_false.2 fun u' hu' => by
        simp only [clashP, Bool.and_eq_true, decide_eq_true_eq, not_and, ne_eq, Decidable.not_not]
        intro e
        rw [h.one u' hu' u hum (e.trans hun.symm), hq]
      simp [this, hq]
    · have : clashB l t = true := List.any_eq_true.2 ⟨u, hum, by simp [clashP, hun, hq]⟩
      simp [this, hq]

theorem Good.add {l : List Tm} (h : Good l) {t : Tm} (hf : fitsB l t = true) (h4 : t.args.length ≤ 4) : Good (addL l t) := by
  have hc : clashB l t = false := by rw [clash_fits h, hf]; rfl
  have key : ∀ u ∈ l, u.name = t.name → u.args.length = t.args.length := by
    intro u hu e
    have := List.any_eq_false.1 hc u hu
    simp only [clashP, Bool.and_eq_true, decide_eq_true_eq, not_and, ne_eq, Decidable.not_not] at this
    exact this e
  unfold addL
  cases nix l t with
  | some i => exact h
  | none =>
    refine ⟨?_, ?_⟩
    · intro a ha b hb e
      simp only [List.mem_append, List.mem_singleton] at ha hb
      rcases ha with ha | rfl <;> rcases hb with hb | rfl
      · exact h.one a ha b hb e
      · exact key a ha e
      · exact (key b hb e.symm).symm
      · rfl
    · intro a ha
      simp only [List.mem_append, List.mem_singleton] at ha
      rcases ha with ha | rfl
      · exact h.four a ha
      · exact h4

theorem p_good (s : ByteArray) : ∀ f : Nat,
    (∀ above i l n k l', i ≤ s.size → Good l → pTerm s f above i l = .ok n k l' → Good l') ∧
    (∀ above i l xs x k l', i ≤ s.size → xs.length ≤ 4 → Good l → pArgs s f above i l xs = .ok x k l' → Good l' ∧ x.length ≤ 4)
  | 0 => ⟨fun _ _ _ _ _ _ _ _ e => (by rw [pTerm] at e; cases e), fun _ _ _ _ _ _ _ _ _ _ e => (by rw [pArgs] at e; cases e)⟩
  | f + 1 => by
    obtain ⟨IT, IA⟩ := p_good s f
    obtain ⟨GT, GA⟩ := p_grows s f
    constructor
    · intro above i l n k l' hi hg e
      rw [pTerm] at e
      split at e
      · cases e
      · have h4 := bl_le (nmE_le hi)
        split at e
        · cases e
        · split at e
          · have h6 := behind_le (c := 40) h4
            split at e
            · cases e
            · next xs k2 l2 hx =>
              obtain ⟨A1, A2⟩ := IA _ _ _ _ _ _ _ h6 (by simp) hg hx
              unfold pEnd at e
              split at e
              · next hf =>
                injection e with e1 e2 e3
                subst e3
                exact A1.add hf A2
              · cases e
          · unfold pEnd at e
            split at e
            · next hf =>
              injection e with e1 e2 e3
              subst e3
              exact hg.add hf (by simp)
            · cases e
    · intro above i l xs x k l' hi hx4 hg e
      rw [pArgs] at e
      split at e
      · cases e
      · split at e
        · cases e
        · split at e
          · cases e
          · next n k2 l2 hx =>
            have A1 := IT _ _ _ _ _ _ hi hg hx
            obtain ⟨B2, B3⟩ := (GT above i l hi).2 n k2 l2 hx
            have hl4 : (xs ++ [n]).length ≤ 4 := by simp; omega
            split at e
            · injection e with e1 e2 e3
              subst e1 e3
              exact ⟨A1, hl4⟩
            · split at e
              · exact IA _ _ _ _ _ _ _ (behind_le B3) hl4 A1 e
              · cases e

theorem bl_bl (s : ByteArray) (i : Nat) : bl s (bl s i) = bl s i := by
  induction i using bl.induct s with
  | case1 i h ih => rw [bl_at h.1 h.2]; exact ih
  | case2 i h => rw [bl_end h, bl_end h]

theorem pTerm_end (s : ByteArray) (f above : Nat) (l : List Tm) : pTerm s (f + 1) above s.size l = .bad 2 s.size l := by
  have h : badNm s s.size = true := by
    have : nmE s s.size = s.size := nmE_end (fun x => by omega)
    simp [badNm, this]
  rw [pTerm, h]
  rfl

/-- The args as the document reads them. -/
theorem pArgs_ref (s : ByteArray) (g above k : Nat) (l : List Tm) (xs : List Nat) (hk : k ≤ s.size) : pArgs s (g + 2) above k l xs =
    if xs.length = 4 ∧ k < s.size then .bad 3 k l else match pTerm s (g + 1) above k l with
      | .bad e p l' => .bad e p l'
      | .ok n k l' => if stands s k 44 then pArgs s (g + 1) above (behind s k 44) l' (xs ++ [n]) else if stands s k 41 then .ok (xs ++ [n]) (behind s k 41) l' else .bad 2 k l' := by
  rw [pArgs]
  by_cases h1 : k = s.size
  · subst h1
    rw [if_pos rfl, if_neg (by omega), pTerm_end]
  · rw [if_neg h1]
    by_cases h2 : xs.length = 4
    · rw [if_pos h2, if_pos ⟨h2, by omega⟩]
    · rw [if_neg h2, if_neg (by omega)]
      cases pTerm s (g + 1) above k l with
      | bad e p l' => rfl
      | ok n k' l' =>
        simp only
        by_cases h41 : stands s k' 41 = true
        · have h44 : stands s k' 44 = false := by
            have := of_decide_eq_true h41
            exact decide_eq_false fun x => by omega
          simp [h41, h44]
        · simp [h41]

theorem p_bad (s : ByteArray) : ∀ f : Nat,
    (∀ above i l c q l', i ≤ s.size → 2 * (s.size - i) + 1 ≤ f → pTerm s f above i l = .bad c q l' → 1 ≤ c ∧ c ≤ 5) ∧
    (∀ above i l xs c q l', i ≤ s.size → 2 * (s.size - i) + 2 ≤ f → pArgs s f above i l xs = .bad c q l' → 1 ≤ c ∧ c ≤ 5)
  | 0 => ⟨fun _ _ _ _ _ _ _ h => absurd h (by omega), fun _ _ _ _ _ _ _ _ h => absurd h (by omega)⟩
  | f + 1 => by
    obtain ⟨IT, IA⟩ := p_bad s f
    obtain ⟨GT, GA⟩ := p_grows s f
    constructor
    · intro above i l c q l' hi hf e
      rw [pTerm] at e
      split at e
      · injection e with e1; omega
      · next hb =>
        have hb' : badNm s i = false := by simpa using hb
        have h1 := nm_lt hb'
        have h2 := nmE_le hi
        have h3 := bl_ge s (nmE s i)
        have h4 := bl_le h2
        split at e
        · injection e with e1; omega
        · split at e
          · next hs =>
            have h5 := behind_lt hs
            have h6 := behind_le (c := 40) h4
            split at e
            · next hx => injection e with e1 e2 e3; subst e1; exact IA _ _ _ _ _ _ _ h6 (by omega) hx
            · unfold pEnd at e
              split at e
              · cases e
              · injection e with e1; omega
          · unfold pEnd at e
            split at e
            · cases e
            · injection e with e1; omega
    · intro above i l xs c q l' hi hf e
      rw [pArgs] at e
      split at e
      · injection e with e1; omega
      · split at e
        · injection e with e1; omega
        · split at e
          · next hx => injection e with e1 e2 e3; subst e1; exact IT _ _ _ _ _ _ hi (by omega) hx
          · next n k2 l2 hx =>
            obtain ⟨B2, B3⟩ := (GT above i l hi).2 n k2 l2 hx
            split at e
            · cases e
            · split at e
              · next hs =>
                have h5 := behind_lt hs
                exact IA _ _ _ _ _ _ _ (behind_le B3) (by omega) e
              · injection e with e1; omega

/-- A row of one type is not the block of another. -/
theorem row_ne {w : World} {base : Nat} {e ty : TypeId} {k n m r : Nat} {v : Value} {xs : List Value} {g : Nat → Value} (h : w.ownsRow base e k v n xs) (R : w.rowIs r ty m g) (he : e ≠ ty) : v.ownBlock ≠ some r := by
  rcases h.2 with ⟨rfl, _⟩ | ⟨b, cap, cur, rfl, _, hb, _⟩
  · simp [Value.ownBlock]
  · intro x
    simp [Value.ownBlock] at x
    subst x
    obtain ⟨cur', h1, _⟩ := R
    rw [hb] at h1
    injection h1 with e1
    injection e1 with _ e2
    exact he e2
theorem row_lt {w : World} {base : Nat} {e : TypeId} {k n : Nat} {v : Value} {xs : List Value} (h : w.ownsRow base e k v n xs) {b : Nat} (hb : v.ownBlock = some b) : b < w.heap.size := by
  rcases h.2 with ⟨rfl, _⟩ | ⟨b', cap, cur, rfl, _, hb', _⟩
  · simp [Value.ownBlock] at hb
  · simp [Value.ownBlock] at hb
    subst hb
    exact right_lt hb'
theorem row_blocks {w w' : World} {base : Nat} {e : TypeId} {k n : Nat} {v : Value} {xs : List Value} (h : w.ownsRow base e k v n xs) (hb : ∀ b, v.ownBlock = some b → w'.heap[b]? = w.heap[b]?) : w'.ownsRow base e k v n xs := by
  refine ⟨h.1, ?_⟩
  rcases h.2 with x | ⟨b, cap, cur, e1, e2, e3, e4⟩
  · exact Or.inl x
  · exact Or.inr ⟨b, cap, cur, e1, e2, (hb b (by rw [e1]; rfl)).trans e3, e4⟩

theorem Ls.blocks {w w' : World} {base : Nat} {av : Value} {l : List Tm} {vs : List Value} (h : Ls w base av l vs) (hb : ∀ b, av.ownBlock = some b → w'.heap[b]? = w.heap[b]?) (hv : ∀ u ∈ vs, ∀ b, u.ownBlock = some b → w'.heap[b]? = w.heap[b]?) : Ls w' base av l vs :=
  ⟨h.len, row_blocks h.row hb, fun i t v h1 h2 => row_blocks (h.args i t v h1 h2) (hv v (List.mem_of_getElem? h2))⟩
theorem Ls.mem {w : World} {base : Nat} {av : Value} {l : List Tm} {vs : List Value} (h : Ls w base av l vs) {u : Value} (hu : u ∈ vs) : ∃ xs, ArgsAt1 w base xs u := by
  obtain ⟨i, hi, rfl⟩ := List.getElem_of_mem hu
  have hl : i < l.length := by rw [← h.len]; exact hi
  exact ⟨_, h.args i l[i] vs[i] (List.getElem?_eq_getElem hl) (List.getElem?_eq_getElem hi)⟩

/-- From (w, av) to (w', av'): what was there and is not the reader's or the list's row has stayed. -/
structure GR (r : Nat) (w : World) (av : Value) (w' : World) (av' : Value) : Prop where
  kept : Kept (fun k => k = r ∨ av.ownBlock = some k ∨ w.heap.size ≤ k) w w'
  row : av'.ownBlock = av.ownBlock ∨ ∀ k, av'.ownBlock = some k → w.heap.size ≤ k
theorem GR.refl (r : Nat) (w : World) (av : Value) : GR r w av w av := ⟨Kept.refl _ w, Or.inl rfl⟩
theorem GR.step {r : Nat} {w W W' : World} {av av1 : Value} {T : Nat → Prop} (h : GR r w av W av1) (K : Kept T W W') (hT : ∀ k, k < W.heap.size → T k → k = r ∨ av1.ownBlock = some k ∨ w.heap.size ≤ k) : GR r w av W' av1 := by
  refine ⟨Kept.trans h.kept (Kept.mono K fun k hk e => ?_), h.row⟩
  rcases hT k hk e with e | e | e
  · exact Or.inl e
  · rcases h.row with e2 | e2
    · exact Or.inr (Or.inl (e2 ▸ e))
    · exact Or.inr (Or.inr (e2 k e))
  · exact Or.inr (Or.inr e)
theorem GR.trans {r : Nat} {a b c : World} {ea eb ec : Value} (h : GR r a ea b eb) (k : GR r b eb c ec) : GR r a ea c ec := by
  have hs := h.kept.size
  refine ⟨(h.step k.kept (fun i _ e => ?_)).kept, ?_⟩
  · rcases e with e | e | e
    · exact Or.inl e
    · exact Or.inr (Or.inl e)
    · exact Or.inr (Or.inr (Nat.le_trans hs e))
  · rcases k.row with e | e
    · rcases h.row with e2 | e2
      · exact Or.inl (e.trans e2)
      · exact Or.inr fun x hx => e2 x (e ▸ hx)
    · exact Or.inr fun x hx => Nat.le_trans hs (e x hx)
theorem GR.kept0 {r : Nat} {w W W' : World} {av av1 : Value} (h : GR r w av W av1) (K : Kept0 W W') : GR r w av W' av1 := h.step K (fun _ _ e => e.elim)
theorem GR.kept1 {r : Nat} {w W W' : World} {av av1 : Value} (h : GR r w av W av1) (K : Kept1 r W W') : GR r w av W' av1 := h.step K (fun _ _ e => Or.inl e)

/-- Values that were there or are new. -/
def NewV (w : World) (vs vs' : List Value) : Prop := ∀ u ∈ vs', u ∈ vs ∨ ∀ k, u.ownBlock = some k → w.heap.size ≤ k
theorem NewV.refl (w : World) (vs : List Value) : NewV w vs vs := fun _ h => Or.inl h
theorem NewV.trans {a b : World} {x y z : List Value} (h : NewV a x y) (k : NewV b y z) (hs : a.heap.size ≤ b.heap.size) : NewV a x z := fun u hu => by
  rcases k u hu with e | e
  · exact h u e
  · exact Or.inr fun i hi => Nat.le_trans hs (e i hi)

/-- The document's reader and its list. -/
structure S1 (w : World) (base r : Nat) (av : Value) (s : ByteArray) (i e a : Nat) (l : List Tm) (vs : List Value) : Prop where
  rd : Rr w r s i av e a
  ls : Ls w base av l vs
  bs : base ≤ w.heap.size
  lo : l.length ≤ 1000
  four : ∀ u ∈ l, u.args.length ≤ 4

theorem S1.read {w w' : World} {base r : Nat} {av : Value} {s : ByteArray} {i e a j e' a' : Nat} {l : List Tm} {vs : List Value} (h : S1 w base r av s i e a l vs) (K : Kept1 r w w') (R : Rr w' r s j av e' a') : S1 w' base r av s j e' a' l vs := by
  refine ⟨R, h.ls.blocks (fun b hb => K.block b (row_lt h.ls.row hb) (fun x => row_ne h.ls.row h.rd.row (by decide) (x ▸ hb))) (fun u hu b hb => ?_), Nat.le_trans h.bs K.size, h.lo, h.four⟩
  obtain ⟨xs, hx⟩ := h.ls.mem hu
  exact K.block b (row_lt hx hb) (fun x => row_ne hx h.rd.row (by decide) (x ▸ hb))
theorem S1.kept0 {w w' : World} {base r : Nat} {av : Value} {s : ByteArray} {i e a : Nat} {l : List Tm} {vs : List Value} (h : S1 w base r av s i e a l vs) (K : Kept0 w w') : S1 w' base r av s i e a l vs :=
  ⟨h.rd.of_block (K.block r h.rd.row.lt (fun x => x)), h.ls.kept0 K, Nat.le_trans h.bs K.size, h.lo, h.four⟩
theorem S1.drewN {w : World} {base r : Nat} {av : Value} {s : ByteArray} {i e a : Nat} {l : List Tm} {vs : List Value} (h : S1 w base r av s i e a l vs) (m : Nat) : S1 (w.drewN m) base r av s i e a l vs := ⟨h.rd.drewN m, h.ls.drewN m, h.bs, h.lo, h.four⟩

def tbox (nm : ByteArray) (v : Value) (j : Nat) : Value := if j = 0 then .string nm else v

/-- And a term that is being read, its box at x. -/
structure S2 (w : World) (base r : Nat) (av : Value) (s : ByteArray) (i e a : Nat) (l : List Tm) (vs : List Value) (x : Nat) (nm : ByteArray) (xs : List Nat) (v : Value) : Prop where
  st : S1 w base r av s i e a l vs
  box : w.rowIs x 140 2 (tbox nm v)
  arg : ArgsAt1 w base xs v
  ax : av.ownBlock ≠ some x
  nv : ∀ u ∈ vs, ∀ k, u.ownBlock = some k → v.ownBlock ≠ some k

theorem S2.xr {w : World} {base r : Nat} {av : Value} {s : ByteArray} {i e a : Nat} {l : List Tm} {vs : List Value} {x : Nat} {nm : ByteArray} {xs : List Nat} {v : Value} (h : S2 w base r av s i e a l vs x nm xs v) : x ≠ r := by
  rintro rfl
  obtain ⟨c1, h1, _⟩ := h.box
  obtain ⟨c2, h2, _⟩ := h.st.rd.row
  rw [h1] at h2
  injection h2 with e1
  injection e1 with _ e2
  exact absurd e2 (by decide)
theorem S2.c0 {w : World} {base r : Nat} {av : Value} {s : ByteArray} {i e a : Nat} {l : List Tm} {vs : List Value} {x : Nat} {nm : ByteArray} {xs : List Nat} {v : Value} (h : S2 w base r av s i e a l vs x nm xs v) : w.cell? ⟨x, 0, none⟩ = some (.string nm) := h.box.cell (i := 0) (by omega)
theorem S2.c1 {w : World} {base r : Nat} {av : Value} {s : ByteArray} {i e a : Nat} {l : List Tm} {vs : List Value} {x : Nat} {nm : ByteArray} {xs : List Nat} {v : Value} (h : S2 w base r av s i e a l vs x nm xs v) : w.cell? ⟨x, 1, none⟩ = some v := h.box.cell (i := 1) (by omega)
theorem S2.read {w w' : World} {base r : Nat} {av : Value} {s : ByteArray} {i e a j e' a' : Nat} {l : List Tm} {vs : List Value} {x : Nat} {nm : ByteArray} {xs : List Nat} {v : Value} (h : S2 w base r av s i e a l vs x nm xs v) (K : Kept1 r w w') (R : Rr w' r s j av e' a') : S2 w' base r av s j e' a' l vs x nm xs v :=
  ⟨h.st.read K R, h.box.of_block (K.block x h.box.lt h.xr), row_blocks h.arg (fun b hb => K.block b (row_lt h.arg hb) (fun y => row_ne h.arg h.st.rd.row (by decide) (y ▸ hb))), h.ax, h.nv⟩
theorem S2.kept0 {w w' : World} {base r : Nat} {av : Value} {s : ByteArray} {i e a : Nat} {l : List Tm} {vs : List Value} {x : Nat} {nm : ByteArray} {xs : List Nat} {v : Value} (h : S2 w base r av s i e a l vs x nm xs v) (K : Kept0 w w') : S2 w' base r av s i e a l vs x nm xs v :=
  ⟨h.st.kept0 K, h.box.of_block (K.block x h.box.lt (fun y => y)), h.arg.kept K.grownBy (Decidable.em _), h.ax, h.nv⟩
theorem S2.drewN {w : World} {base r : Nat} {av : Value} {s : ByteArray} {i e a : Nat} {l : List Tm} {vs : List Value} {x : Nat} {nm : ByteArray} {xs : List Nat} {v : Value} (h : S2 w base r av s i e a l vs x nm xs v) (m : Nat) : S2 (w.drewN m) base r av s i e a l vs x nm xs v :=
  ⟨h.st.drewN m, h.box, h.arg, h.ax, h.nv⟩
/-- Behind a term within. -/
theorem S2.inner {w w' : World} {base r : Nat} {av av' : Value} {s : ByteArray} {i e a i' e' a' : Nat} {l l' : List Tm} {vs vs' : List Value} {x : Nat} {nm : ByteArray} {xs : List Nat} {v : Value} (h : S2 w base r av s i e a l vs x nm xs v) (G : GR r w av w' av') (N : NewV w vs vs') (S : S1 w' base r av' s i' e' a' l' vs') : S2 w' base r av' s i' e' a' l' vs' x nm xs v := by
  have hx := h.box.lt
  refine ⟨S, h.box.of_block (G.kept.block x hx ?_), row_blocks h.arg (fun b hb => G.kept.block b (row_lt h.arg hb) ?_), ?_, ?_⟩
  · rintro (y | y | y)
    · exact h.xr y
    · exact h.ax y
    · omega
  · have hlt := row_lt h.arg hb
    rintro (y | y | y)
    · exact row_ne h.arg h.st.rd.row (by decide) (y ▸ hb)
    · rcases rows_apart (by decide) h.arg h.st.ls.row with z | z
      · rw [hb] at z; cases z
      · exact z (hb.trans y.symm)
    · omega
  · rcases G.row with y | y
    · rw [y]; exact h.ax
    · intro z
      have := y x z
      omega
  · intro u hu k hk
    rcases N u hu with y | y
    · exact h.nv u y k hk
    · intro z
      have h1 := y k hk
      have h2 := row_lt h.arg z
      omega

end Go.Proofs.YtlehlgipbhfioaaGreat

namespace Go.Proofs.YtlehlgipbhfioaaGreat
open Go.RowKit

theorem argC_snoc (xs : List Nat) (n : Nat) : argC (xs ++ [n]) = argC xs ++ [.int .i64 (n : Int)] := by simp [argC]

/-- One more arg. -/
theorem S2.push {w w' : World} {base r : Nat} {av : Value} {s : ByteArray} {i e a : Nat} {l : List Tm} {vs : List Value} {x : Nat} {nm : ByteArray} {xs : List Nat} {v v' : Value} (h : S2 w base r av s i e a l vs x nm xs v) (n : Nat)
    (hr : w'.ownsRow base 3 1 v' (xs.length + 1) (argC xs ++ [.int .i64 (n : Int)])) (hg : w.grownBy w' v.ownBlock) (hloc : v'.ownBlock = v.ownBlock ∨ ∀ k, v'.ownBlock = some k → w.heap.size ≤ k) :
    S2 (w'.setCell ⟨x, 1, none⟩ v') base r av s i e a l vs x nm (xs ++ [n]) v' := by
  have hvx : v.ownBlock ≠ some x := row_ne h.arg h.box (by decide)
  have hvr : v.ownBlock ≠ some r := row_ne h.arg h.st.rd.row (by decide)
  have hva : ∀ b, av.ownBlock = some b → v.ownBlock ≠ some b := fun b hb z => by
    rcases rows_apart (by decide) h.arg h.st.ls.row with y | y
    · rw [z] at y; cases y
    · exact y (z.trans hb.symm)
  have hxl := h.box.lt
  have hrl := h.st.rd.row.lt
  have K2 : Kept1 x w' (w'.setCell ⟨x, 1, none⟩ v') := Kept1.set (Kept.refl _ w') _ _
  have stay : ∀ b, b < w.heap.size → v.ownBlock ≠ some b → b ≠ x → (w'.setCell ⟨x, 1, none⟩ v').heap[b]? = w.heap[b]? := fun b hb hne hbx =>
    (K2.block b (Nat.lt_of_lt_of_le hb hg.size) hbx).trans (hg.block b hb (fun z => hne z.symm))
  have hv'x : v'.ownBlock ≠ some x := by
    rcases hloc with z | z
    · rw [z]; exact hvx
    · intro y
      have := z x y
      omega
  refine ⟨⟨h.st.rd.of_block (stay r hrl hvr (Ne.symm h.xr)), h.st.ls.blocks (fun b hb => stay b (row_lt h.st.ls.row hb) (hva b hb) (fun z => h.ax (z ▸ hb))) (fun u hu b hb => ?_), Nat.le_trans h.st.bs (Nat.le_trans hg.size K2.size), h.st.lo, h.st.four⟩, ?_, ?_, h.ax, ?_⟩
  · obtain ⟨ys, hy⟩ := h.st.ls.mem hu
    exact stay b (row_lt hy hb) (h.nv u hu b hb) (fun z => row_ne hy h.box (by decide) (z ▸ hb))
  · have b1 : w'.rowIs x 140 2 (tbox nm v) := h.box.of_block (hg.block x hxl (fun z => hvx z.symm))
    refine (b1.set 1 v').congr (fun j hj => ?_)
    rcases (by omega : j = 0 ∨ j = 1) with rfl | rfl <;> simp [tbox]
  · have := ownsRow_setCell_other (a := ⟨x, 1, none⟩) hr hv'x v'
    simpa [ArgsAt1, argC_snoc] using this
  · intro u hu k hk
    rcases hloc with z | z
    · rw [z]; exact h.nv u hu k hk
    · intro y
      obtain ⟨ys, hy⟩ := h.st.ls.mem hu
      have h1 := row_lt hy hk
      have h2 := z k y
      omega

/-- What the document's Term leaves. -/
def RPost (w : World) (base r : Nat) (av : Value) (s : ByteArray) (vs : List Value) : Res Nat → Ending → World → Prop
  | .ok n k l', e, w' => e = .returned (.int .i64 (n : Int)) ∧ ∃ av' i' vs', S1 w' base r av' s i' 0 0 l' vs' ∧ bl s i' = k ∧ GR r w av w' av' ∧ NewV w vs vs'
  | .bad c q _, e, w' => e = .returned (.int .i64 0) ∧ ∃ av' i' l' vs', S1 w' base r av' s i' c q l' vs' ∧ GR r w av w' av' ∧ NewV w vs vs'

def RTermAt (f : Nat) : Prop := ∀ (w : World) (base r : Nat) (av : Value) (s : ByteArray) (i : Nat) (l : List Tm) (vs : List Value) (deep : Nat), S1 w base r av s i 0 0 l vs → Good l → 2 * (s.size - bl s i) + 1 ≤ f → l.length + (s.size - bl s i) ≤ 600 → deep ≤ 100 →
  Calls Tryz.prog 29 #[.pointer (some ⟨r, 0, none⟩), .int .i64 (deep : Int)] w (RPost w base r av s vs (pTerm s f deep (bl s i) l))

/-- A new box for a term. -/
theorem S1.boxed {w : World} {base r : Nat} {av : Value} {s : ByteArray} {i e a : Nat} {l : List Tm} {vs : List Value} (h : S1 w base r av s i e a l vs) (nm : ByteArray) :
    S2 (w.alloc (.cells #[.string nm, .slice none 0 0] 140)) base r av s i e a l vs w.heap.size nm [] (.slice none 0 0) := by
  have K : Kept0 w (w.alloc (.cells #[.string nm, .slice none 0 0] 140)) := Kept.alloc (Kept.refl _ w) _
  refine ⟨h.kept0 K, World.rowIs.congr (made_row w #[.string nm, .slice none 0 0] 140) (fun j hj => ?_), World.ownsRow_nil _ _ _ _, fun e => ?_, fun u _ k _ => by simp [Value.ownBlock]⟩
  · have hj' : j < 2 := hj
    rcases (by omega : j = 0 ∨ j = 1) with rfl | rfl <;> rfl
  · have := row_lt h.ls.row e
    omega

theorem isB_err {s : ByteArray} {i e c : Nat} (h : 1 ≤ e) : isB s i e c = false := by
  have : ¬ e = 0 := by omega
  simp [isB, this]
theorem isB_ok (s : ByteArray) (i c : Nat) : isB s i 0 c = stands s (bl s i) c := by simp [isB]
theorem hasI_no {s : ByteArray} {i e c : Nat} (h : isB s i e c = false) : hasI s i e c = bl s i := by simp [hasI, h]
theorem hasI_yes {s : ByteArray} {i e c : Nat} (h : isB s i e c = true) : hasI s i e c = bl s i + 1 := by simp [hasI, h]
theorem failE_err {e c : Nat} (h : 1 ≤ e) : failE e c = e := by
  have : ¬ e = 0 := by omega
  simp [failE, this]
theorem failA_err {e a q : Nat} (h : 1 ≤ e) : failA e a q = a := by
  have : ¬ e = 0 := by omega
  simp [failA, this]

set_option maxHeartbeats 8000000 in
set_option maxRecDepth 100000 in
theorem rterm_err (f : Nat) (w : World) (base r : Nat) (av : Value) (s : ByteArray) (i : Nat) (l : List Tm) (vs : List Value) (deep : Nat) (h : S1 w base r av s i 0 0 l vs) (hd : deep ≤ 100) (hE : badNm s (bl s i) = true ∨ 12 < deep) :
    Calls Tryz.prog 29 #[.pointer (some ⟨r, 0, none⟩), .int .i64 (deep : Int)] w (RPost w base r av s vs (pTerm s (f + 1) deep (bl s i) l)) := by
  have hsm := h.rd.small
  have hple := bl_le h.rd.le
  have NM := rname_in w r s i av 0 0 h.rd
  generalize hres : pTerm s (f + 1) deep (bl s i) l = res
  rw [pTerm] at hres
  unfold NmPost at NM
  cases hbad : badNm s (bl s i) with
  | true =>
    rw [hbad] at NM hres
    rw [if_pos rfl] at hres
    simp only [if_true] at NM
    replace hres := hres.symm
    have NM2 : Calls Tryz.prog 61 #[.pointer (some ⟨r, 0, none⟩)] w fun x w' => x = .returned (.tuple #[.string (s.extract (bl s i) (nmE s (bl s i))), .int .i64 (bl s i : Int)]) ∧ S1 w' base r av s (nmE s (bl s i)) 2 (bl s i) l vs ∧ GR r w av w' av := NM.mono fun x w' hP => ⟨hP.1, h.read hP.2.1 hP.2.2, (GR.refl r w av).kept1 hP.2.1⟩
    clear NM
    generalize s.extract (bl s i) (nmE s (bl s i)) = N at *
    go_enter Tryz.func29, Tryz.ntmps29
    by_cases hab : 12 < deep
    · have d12 : (12 : Int) < (deep : Int) := by omega
      go_wp2_with (first | (go_at_call 61; refine NM2.mono ?_; rintro e w2 ⟨rfl, S2a, G2⟩; have FA := fail_in w2 r s _ av 2 (bl s i) S2a.rd 4 (bl s i); rw [failE_err (by omega), failA_err (by omega)] at FA) | (go_at_call 31; refine FA.mono ?_; rintro e w3 ⟨rfl, R3, K3⟩; have S3 := S2a.read K3 R3; have X3 := S3.boxed N; have HA := rhas1_in _ r s _ av 2 (bl s i) X3.st.rd 40; rw [isB_err (by omega)] at HA) | (go_at_call 62; refine HA.mono ?_; rintro e W ⟨rfl, R4, K4⟩))
      have X : S2 W base r av s _ 2 (bl s i) l vs w3.heap.size N [] (.slice none 0 0) := X3.read K4 R4
      have G : GR r w av W av := ((G2.kept1 K3).kept0 (Kept.alloc (Kept.refl _ w3) _)).kept1 K4
      have NV := NewV.refl w vs
      clear HA R4 K4 X3
      generalize w3.heap.size = x at *
      have gen : ∃ (c q : Nat) (avc : Value) (lc : List Tm) (vsc : List Value) (xs : List Nat) (v : Value) (j : Nat) (lx : List Tm), 1 ≤ c ∧ xs.length ≤ 5 ∧ S2 W base r avc s j c q lc vsc x N xs v ∧ GR r w av W avc ∧ NewV w vs vsc ∧ res = .bad c q lx := ⟨2, bl s i, av, l, vs, [], .slice none 0 0, _, _, by omega, by simp, X, G, NV, hres⟩
      clear X G NV hres
      obtain ⟨c, q, avc, lc, vsc, xs, v, j, lx, hc1, hx5, X, G, NV, rfl⟩ := gen
      obtain ⟨ca, cc, hcv⟩ := row_form X.arg
      subst hcv
      have rc2 := X.st.rd.c2
      have rc3 := X.st.rd.c3
      have y0 := X.c0
      have y1 := X.c1
      have dE : ((c : Int) != 0) = true := by simp; omega
      have CL : ∀ m, Calls Tryz.prog 63 #[avc, .agg #[.string N, .slice ca xs.length cc]] (W.drewN m) fun e w' => e = .returned (.bool (clashB lc ⟨N, xs⟩)) ∧ Kept0 (W.drewN m) w' := fun m => clashes_in (W.drewN m) base avc lc vsc (X.st.ls.drewN m) X.st.lo ⟨N, xs⟩ (.slice ca xs.length cc) X.arg (by simpa using hx5) X.st.four
      cases hcl : clashB lc ⟨N, xs⟩ with
      | false =>
        rw [hcl] at CL
        go_region_with (go_at_call 63; refine (CL _).mono ?_; rintro e w7 ⟨rfl, K7⟩; have X7 := (X.drewN _).kept0 K7; have e7 := X7.st.rd.c3)
        all_goals
          go_wp2_with fail
          go_ret
          exact ⟨rfl, avc, _, lc, vsc, X7.st, (G.step (Kept.drewN (Kept.refl (fun _ => False) W) _) (fun _ _ e => e.elim)).kept0 K7, NV⟩
      | true =>
        rw [hcl] at CL
        go_region_with (go_at_call 63; refine (CL _).mono ?_; rintro e w7 ⟨rfl, K7⟩; have X7 := (X.drewN _).kept0 K7; have FL := fail_in w7 r s _ avc c q X7.st.rd 5 (bl s i); rw [failE_err hc1, failA_err hc1] at FL)
        all_goals
          go_wp2_with (go_at_call 31; refine FL.mono ?_; rintro e w8 ⟨rfl, R8, K8⟩; have e8 := R8.c3)
          go_ret
          exact ⟨rfl, avc, _, lc, vsc, (X7.read K8 R8).st, ((G.step (Kept.drewN (Kept.refl (fun _ => False) W) _) (fun _ _ e => e.elim)).kept0 K7).kept1 K8, NV⟩
    · have d12 : ¬ (12 : Int) < (deep : Int) := by omega
      go_wp2_with (first | (go_at_call 61; refine NM2.mono ?_; rintro e w3 ⟨rfl, S3, G2⟩; have X3 := S3.boxed N; have HA := rhas1_in _ r s _ av 2 (bl s i) X3.st.rd 40; rw [isB_err (by omega)] at HA) | (go_at_call 62; refine HA.mono ?_; rintro e W ⟨rfl, R4, K4⟩))
      have X : S2 W base r av s _ 2 (bl s i) l vs w3.heap.size N [] (.slice none 0 0) := X3.read K4 R4
      have G : GR r w av W av := (G2.kept0 (Kept.alloc (Kept.refl _ w3) _)).kept1 K4
      have NV := NewV.refl w vs
      clear HA R4 K4 X3
      generalize w3.heap.size = x at *
      have gen : ∃ (c q : Nat) (avc : Value) (lc : List Tm) (vsc : List Value) (xs : List Nat) (v : Value) (j : Nat) (lx : List Tm), 1 ≤ c ∧ xs.length ≤ 5 ∧ S2 W base r avc s j c q lc vsc x N xs v ∧ GR r w av W avc ∧ NewV w vs vsc ∧ res = .bad c q lx := ⟨2, bl s i, av, l, vs, [], .slice none 0 0, _, _, by omega, by simp, X, G, NV, hres⟩
      clear X G NV hres
      obtain ⟨c, q, avc, lc, vsc, xs, v, j, lx, hc1, hx5, X, G, NV, rfl⟩ := gen
      obtain ⟨ca, cc, hcv⟩ := row_form X.arg
      subst hcv
      have rc2 := X.st.rd.c2
      have rc3 := X.st.rd.c3
      have y0 := X.c0
      have y1 := X.c1
      have dE : ((c : Int) != 0) = true := by simp; omega
      have CL : ∀ m, Calls Tryz.prog 63 #[avc, .agg #[.string N, .slice ca xs.length cc]] (W.drewN m) fun e w' => e = .returned (.bool (clashB lc ⟨N, xs⟩)) ∧ Kept0 (W.drewN m) w' := fun m => clashes_in (W.drewN m) base avc lc vsc (X.st.ls.drewN m) X.st.lo ⟨N, xs⟩ (.slice ca xs.length cc) X.arg (by simpa using hx5) X.st.four
      cases hcl : clashB lc ⟨N, xs⟩ with
      | false =>
        rw [hcl] at CL
        go_region_with (go_at_call 63; refine (CL _).mono ?_; rintro e w7 ⟨rfl, K7⟩; have X7 := (X.drewN _).kept0 K7; have e7 := X7.st.rd.c3)
        all_goals
          go_wp2_with fail
          go_ret
          exact ⟨rfl, avc, _, lc, vsc, X7.st, (G.step (Kept.drewN (Kept.refl (fun _ => False) W) _) (fun _ _ e => e.elim)).kept0 K7, NV⟩
      | true =>
        rw [hcl] at CL
        go_region_with (go_at_call 63; refine (CL _).mono ?_; rintro e w7 ⟨rfl, K7⟩; have X7 := (X.drewN _).kept0 K7; have FL := fail_in w7 r s _ avc c q X7.st.rd 5 (bl s i); rw [failE_err hc1, failA_err hc1] at FL)
        all_goals
          go_wp2_with (go_at_call 31; refine FL.mono ?_; rintro e w8 ⟨rfl, R8, K8⟩; have e8 := R8.c3)
          go_ret
          exact ⟨rfl, avc, _, lc, vsc, (X7.read K8 R8).st, ((G.step (Kept.drewN (Kept.refl (fun _ => False) W) _) (fun _ _ e => e.elim)).kept0 K7).kept1 K8, NV⟩
  | false =>
    rw [hbad] at NM hres
    rw [if_neg (by simp)] at hres
    simp only [Bool.false_eq_true, if_false] at NM
    have hnl := nm_lt hbad
    have hne := nmE_le hple
    have hn6 := nm_small hbad hple
    have NM2 : Calls Tryz.prog 61 #[.pointer (some ⟨r, 0, none⟩)] w fun x w' => x = .returned (.tuple #[.string (s.extract (bl s i) (nmE s (bl s i))), .int .i64 (bl s i : Int)]) ∧ S1 w' base r av s (nmE s (bl s i)) 0 0 l vs ∧ GR r w av w' av := NM.mono fun x w' hP => ⟨hP.1, h.read hP.2.1 hP.2.2, (GR.refl r w av).kept1 hP.2.1⟩
    clear NM
    generalize s.extract (bl s i) (nmE s (bl s i)) = N at *
    go_enter Tryz.func29, Tryz.ntmps29
    by_cases hab : 12 < deep
    · have d12 : (12 : Int) < (deep : Int) := by omega
      rw [if_pos hab] at hres
      replace hres := hres.symm
      go_wp2_with (first | (go_at_call 61; refine NM2.mono ?_; rintro e w2 ⟨rfl, S2a, G2⟩; have FA : Calls Tryz.prog 31 #[.pointer (some ⟨r, 0, none⟩), .int .i64 ((4 : Nat) : Int), .int .i64 (bl s i : Int)] w2 fun x w' => x = .returned (.tuple #[]) ∧ Rr w' r s (nmE s (bl s i)) av 4 (bl s i) ∧ Kept1 r w2 w' := fail_in w2 r s _ av 0 0 S2a.rd 4 (bl s i)) | (go_at_call 31; refine FA.mono ?_; rintro e w3 ⟨rfl, R3, K3⟩; have S3 := S2a.read K3 R3; have X3 := S3.boxed N; have HA := rhas1_in _ r s _ av 4 (bl s i) X3.st.rd 40; rw [isB_err (by omega)] at HA) | (go_at_call 62; refine HA.mono ?_; rintro e W ⟨rfl, R4, K4⟩))
      have X : S2 W base r av s _ 4 (bl s i) l vs w3.heap.size N [] (.slice none 0 0) := X3.read K4 R4
      have G : GR r w av W av := ((G2.kept1 K3).kept0 (Kept.alloc (Kept.refl _ w3) _)).kept1 K4
      have NV := NewV.refl w vs
      clear HA R4 K4 X3
      generalize w3.heap.size = x at *
      have gen : ∃ (c q : Nat) (avc : Value) (lc : List Tm) (vsc : List Value) (xs : List Nat) (v : Value) (j : Nat) (lx : List Tm), 1 ≤ c ∧ xs.length ≤ 5 ∧ S2 W base r avc s j c q lc vsc x N xs v ∧ GR r w av W avc ∧ NewV w vs vsc ∧ res = .bad c q lx := ⟨4, bl s i, av, l, vs, [], .slice none 0 0, _, _, by omega, by simp, X, G, NV, hres⟩
      clear X G NV hres
      obtain ⟨c, q, avc, lc, vsc, xs, v, j, lx, hc1, hx5, X, G, NV, rfl⟩ := gen
      obtain ⟨ca, cc, hcv⟩ := row_form X.arg
      subst hcv
      have rc2 := X.st.rd.c2
      have rc3 := X.st.rd.c3
      have y0 := X.c0
      have y1 := X.c1
      have dE : ((c : Int) != 0) = true := by simp; omega
      have CL : ∀ m, Calls Tryz.prog 63 #[avc, .agg #[.string N, .slice ca xs.length cc]] (W.drewN m) fun e w' => e = .returned (.bool (clashB lc ⟨N, xs⟩)) ∧ Kept0 (W.drewN m) w' := fun m => clashes_in (W.drewN m) base avc lc vsc (X.st.ls.drewN m) X.st.lo ⟨N, xs⟩ (.slice ca xs.length cc) X.arg (by simpa using hx5) X.st.four
      cases hcl : clashB lc ⟨N, xs⟩ with
      | false =>
        rw [hcl] at CL
        go_region_with (go_at_call 63; refine (CL _).mono ?_; rintro e w7 ⟨rfl, K7⟩; have X7 := (X.drewN _).kept0 K7; have e7 := X7.st.rd.c3)
        all_goals
          go_wp2_with fail
          go_ret
          exact ⟨rfl, avc, _, lc, vsc, X7.st, (G.step (Kept.drewN (Kept.refl (fun _ => False) W) _) (fun _ _ e => e.elim)).kept0 K7, NV⟩
      | true =>
        rw [hcl] at CL
        go_region_with (go_at_call 63; refine (CL _).mono ?_; rintro e w7 ⟨rfl, K7⟩; have X7 := (X.drewN _).kept0 K7; have FL := fail_in w7 r s _ avc c q X7.st.rd 5 (bl s i); rw [failE_err hc1, failA_err hc1] at FL)
        all_goals
          go_wp2_with (go_at_call 31; refine FL.mono ?_; rintro e w8 ⟨rfl, R8, K8⟩; have e8 := R8.c3)
          go_ret
          exact ⟨rfl, avc, _, lc, vsc, (X7.read K8 R8).st, ((G.step (Kept.drewN (Kept.refl (fun _ => False) W) _) (fun _ _ e => e.elim)).kept0 K7).kept1 K8, NV⟩
    · have d12 : ¬ (12 : Int) < (deep : Int) := by omega
      rcases hE with e | e
      · exact absurd e (by rw [hbad]; simp)
      · exact absurd e hab

end Go.Proofs.YtlehlgipbhfioaaGreat

namespace Go.Proofs.YtlehlgipbhfioaaGreat
open Go.RowKit

/-- Behind put: the list is laid into the reader. -/
theorem S1.stored {w w' : World} {base r : Nat} {av av' : Value} {s : ByteArray} {i e a : Nat} {l l' : List Tm} {vs vs' : List Value} (h : S1 w base r av s i e a l vs) (K : Kept (fun k => av.ownBlock = some k) w w') (L : Ls w' base av' l' vs') (hlo : l'.length ≤ 1000) (h4 : ∀ u ∈ l', u.args.length ≤ 4) :
    S1 (w'.setCell ⟨r, 2, none⟩ av') base r av' s i e a l' vs' := by
  have R : Rr w' r s i av e a := h.rd.of_block (K.block r h.rd.row.lt (row_ne h.ls.row h.rd.row (by decide)))
  have K2 : Kept1 r w' (w'.setCell ⟨r, 2, none⟩ av') := Kept1.set (Kept.refl _ w') _ _
  refine ⟨R.list av', L.blocks (fun b hb => K2.block b (row_lt L.row hb) (fun x => row_ne L.row R.row (by decide) (x ▸ hb))) (fun u hu b hb => ?_), Nat.le_trans h.bs (Nat.le_trans K.size K2.size), hlo, h4⟩
  obtain ⟨xs, hx⟩ := L.mem hu
  exact K2.block b (row_lt hx hb) (fun x => row_ne hx R.row (by decide) (x ▸ hb))

theorem putV_mem {l : List Tm} {t : Tm} {vs : List Value} {v u : Value} (h : u ∈ putV l t vs v) : u ∈ vs ∨ u = v := by
  unfold putV at h
  cases hn : nix l t with
  | some _ => rw [hn] at h; exact Or.inl h
  | none => rw [hn] at h; simpa using h
theorem addL_mem {l : List Tm} {t u : Tm} (h : u ∈ addL l t) : u ∈ l ∨ u = t := by
  unfold addL at h
  cases hn : nix l t with
  | some _ => rw [hn] at h; exact Or.inl h
  | none => rw [hn] at h; simpa using h

set_option maxHeartbeats 8000000 in
set_option maxRecDepth 100000 in
theorem rterm_plain (f : Nat) (w : World) (base r : Nat) (av : Value) (s : ByteArray) (i : Nat) (l : List Tm) (vs : List Value) (deep : Nat) (h : S1 w base r av s i 0 0 l vs) (hGo : Good l) (_hf : 2 * (s.size - bl s i) + 1 ≤ f + 1) (hb : l.length + (s.size - bl s i) ≤ 600) (hab : ¬ 12 < deep) (hbad : badNm s (bl s i) = false) (hst : stands s (bl s (nmE s (bl s i))) 40 = false) :
    Calls Tryz.prog 29 #[.pointer (some ⟨r, 0, none⟩), .int .i64 (deep : Int)] w (RPost w base r av s vs (pTerm s (f + 1) deep (bl s i) l)) := by
  have hsm := h.rd.small
  have hple := bl_le h.rd.le
  have NM := rname_in w r s i av 0 0 h.rd
  generalize hres : pTerm s (f + 1) deep (bl s i) l = res
  rw [pTerm] at hres
  unfold NmPost at NM
  rw [hbad] at NM hres
  rw [if_neg (by simp), if_neg hab] at hres
  simp only [Bool.false_eq_true, if_false] at NM
  have hnl := nm_lt hbad
  have hne := nmE_le hple
  have hbe := bl_ge s (nmE s (bl s i))
  have hbel := bl_le hne
  have NM2 : Calls Tryz.prog 61 #[.pointer (some ⟨r, 0, none⟩)] w fun x w' => x = .returned (.tuple #[.string (s.extract (bl s i) (nmE s (bl s i))), .int .i64 (bl s i : Int)]) ∧ S1 w' base r av s (nmE s (bl s i)) 0 0 l vs ∧ GR r w av w' av := NM.mono fun x w' hP => ⟨hP.1, h.read hP.2.1 hP.2.2, (GR.refl r w av).kept1 hP.2.1⟩
  clear NM
  generalize s.extract (bl s i) (nmE s (bl s i)) = N at *
  have d12 : ¬ (12 : Int) < (deep : Int) := by omega
  go_enter Tryz.func29, Tryz.ntmps29
  rw [hst, if_neg (by simp)] at hres
  replace hres := hres.symm
  go_wp2_with (first | (go_at_call 61; refine NM2.mono ?_; rintro e w3 ⟨rfl, S3, G2⟩; have X3 := S3.boxed N; have HA := rhas1_in _ r s _ av 0 0 X3.st.rd 40; rw [isB_ok, hst] at HA) | (go_at_call 62; refine HA.mono ?_; rintro e W ⟨rfl, R4, K4⟩))
  rw [hasI_no (by rw [isB_ok]; exact hst)] at R4
  have X : S2 W base r av s _ 0 0 l vs w3.heap.size N [] (.slice none 0 0) := X3.read K4 R4
  have G : GR r w av W av := (G2.kept0 (Kept.alloc (Kept.refl _ w3) _)).kept1 K4
  have NV := NewV.refl w vs
  clear HA R4 K4 X3
  generalize w3.heap.size = x at *
  have gen : ∃ (avc : Value) (lc : List Tm) (vsc : List Value) (xs : List Nat) (v : Value) (j : Nat), xs.length ≤ 4 ∧ S2 W base r avc s j 0 0 lc vsc x N xs v ∧ GR r w av W avc ∧ NewV w vs vsc ∧ (∀ k, v.ownBlock = some k → w.heap.size ≤ k) ∧ Good lc ∧ lc.length < 1000 ∧ res = pEnd ⟨N, xs⟩ (bl s i) (bl s j) lc := ⟨av, l, vs, [], .slice none 0 0, bl s (nmE s (bl s i)), by simp, X, G, NV, by simp [Value.ownBlock], hGo, by omega, by rw [bl_bl]; exact hres⟩
  clear X G NV hres
  obtain ⟨avc, lc, vsc, xs, v, j, hx4, X, G, NV, hvf, hGc, hlc, hres⟩ := gen
  obtain ⟨ca, cc, hcv⟩ := row_form X.arg
  subst hcv
  have rc2 := X.st.rd.c2
  have rc3 := X.st.rd.c3
  have y0 := X.c0
  have y1 := X.c1
  have CL : ∀ m, Calls Tryz.prog 63 #[avc, .agg #[.string N, .slice ca xs.length cc]] (W.drewN m) fun e w' => e = .returned (.bool (clashB lc ⟨N, xs⟩)) ∧ Kept0 (W.drewN m) w' := fun m => clashes_in (W.drewN m) base avc lc vsc (X.st.ls.drewN m) X.st.lo ⟨N, xs⟩ (.slice ca xs.length cc) X.arg (by simp; omega) X.st.four
  cases hcl : clashB lc ⟨N, xs⟩ with
  | true =>
    rw [hcl] at CL
    have hfit : fitsB lc ⟨N, xs⟩ = false := by have := clash_fits hGc ⟨N, xs⟩; rw [hcl] at this; simpa using this.symm
    have hr2 : res = .bad 5 (bl s i) lc := by rw [hres, pEnd, hfit]; rfl
    clear hres
    subst hr2
    go_region_with (go_at_call 63; refine (CL _).mono ?_; rintro e w7 ⟨rfl, K7⟩; have X7 := (X.drewN _).kept0 K7; have FL : Calls Tryz.prog 31 #[.pointer (some ⟨r, 0, none⟩), .int .i64 ((5 : Nat) : Int), .int .i64 (bl s i : Int)] w7 fun x w' => x = .returned (.tuple #[]) ∧ Rr w' r s _ avc 5 (bl s i) ∧ Kept1 r w7 w' := fail_in w7 r s _ avc 0 0 X7.st.rd 5 (bl s i))
    all_goals
      go_wp2_with (go_at_call 31; refine FL.mono ?_; rintro e w8 ⟨rfl, R8, K8⟩; have e8 := R8.c3)
      go_ret
      exact ⟨rfl, avc, _, lc, vsc, (X7.read K8 R8).st, ((G.step (Kept.drewN (Kept.refl (fun _ => False) W) _) (fun _ _ e => e.elim)).kept0 K7).kept1 K8, NV⟩
  | false =>
    rw [hcl] at CL
    have hfit : fitsB lc ⟨N, xs⟩ = true := by have := clash_fits hGc ⟨N, xs⟩; rw [hcl] at this; simpa using this.symm
    have hr2 : res = .ok (addN lc ⟨N, xs⟩) (bl s j) (addL lc ⟨N, xs⟩) := by rw [hres, pEnd, hfit]; rfl
    clear hres
    subst hr2
    go_region_with (go_at_call 63; refine (CL _).mono ?_; rintro e w7 ⟨rfl, K7⟩; have X7 := (X.drewN _).kept0 K7; have e7 := X7.st.rd.c3; have e72 := X7.st.rd.c2; have z0 := X7.c0; have z1 := X7.c1)
    all_goals
      clear rc2 rc3 y0 y1 CL
      have PUT : ∀ m, Calls Tryz.prog 64 #[avc, .agg #[.string N, .slice ca xs.length cc]] (w7.drewN m) (PutPost (w7.drewN m) base avc lc vsc ⟨N, xs⟩ (.slice ca xs.length cc)) := fun m => put_in (w7.drewN m) base avc lc vsc (X7.st.ls.drewN m) X7.st.lo ⟨N, xs⟩ (.slice ca xs.length cc) X7.arg X7.st.four X7.st.bs
      go_wp2_with fail
      go_region_with (go_at_call 64; refine (PUT _).mono ?_; rintro e w9 ⟨av9, rfl, L9, K9, loc9⟩; have R9 : Rr w9 r s _ avc 0 0 := (X7.st.rd.drewN _).of_block (K9.block r X7.st.rd.row.lt (row_ne X7.st.ls.row X7.st.rd.row (by decide))); have q2 := R9.c2; have q3 := R9.row.frozen 2; obtain ⟨pa, pc, hpv⟩ := L9.form; subst hpv)
      all_goals
        go_wp2_with fail
        go_ret
        have SS := (X7.st.drewN _).stored K9 L9 (by have := addL_len lc ⟨N, xs⟩; omega) (fun u hu => by
          rcases addL_mem hu with y | y
          · exact X7.st.four u y
          · rw [y]; exact hx4)
        have GB := ((G.step (Kept.drewN (Kept.refl (fun _ => False) W) 1) (fun _ _ e => e.elim)).kept0 K7)
        have GC := (GB.step (Kept.drewN (Kept.refl (fun _ => False) w7) 1) (fun _ _ e => e.elim)).step K9 (fun k _ e => Or.inr (Or.inl e))
        have hsz : w.heap.size ≤ w7.heap.size := GB.kept.size
        refine ⟨rfl, _, j, _, SS, rfl, ⟨(GC.step (Kept1.set (nb := r) (Kept.refl _ w9) 2 _) (fun _ _ e => Or.inl e)).kept, ?_⟩, ?_⟩
        · rcases loc9 with e | e
          · rcases G.row with e2 | e2
            · exact Or.inl (e.trans e2)
            · exact Or.inr fun k hk => e2 k (e ▸ hk)
          · exact Or.inr fun k hk => Nat.le_trans hsz (e k hk)
        · intro u hu
          rcases putV_mem hu with y | y
          · exact NV u y
          · rw [y]; exact Or.inr hvf

end Go.Proofs.YtlehlgipbhfioaaGreat

namespace Go.Proofs.YtlehlgipbhfioaaGreat
open Go.RowKit

theorem one_new (w : World) (a : Value) (ty : TypeId) : ∀ j u, ([a] : List Value)[j]? = some u → (w.alloc (.cells #[a] ty)).cell? ((⟨w.heap.size, 0, none⟩ : Addr).add j) = some u := by
  intro j u hj
  match j, hj with
  | 0, hj => simp at hj; subst hj; simp [Addr.add]

theorem hvf6 {w wr w5 : World} {base r x : Nat} {av avc av5 : Value} {s : ByteArray} {i e a : Nat} {l : List Tm} {vs : List Value} {nm : ByteArray} {xs : List Nat} {v v6 : Value} (G : GR r w av wr avc) (G5 : GR r wr avc w5 av5) (_ : S2 w5 base r av5 s i e a l vs x nm xs v) (hvf : ∀ k, v.ownBlock = some k → w.heap.size ≤ k) {o : Obj} (hloc : v6.ownBlock = v.ownBlock ∨ ∀ k, v6.ownBlock = some k → (w5.alloc o).heap.size ≤ k) : ∀ k, v6.ownBlock = some k → w.heap.size ≤ k := by
  intro k hk
  rcases hloc with e | e
  · exact hvf k (e ▸ hk)
  · have h1 := e k hk
    have h2 := G.kept.size
    have h3 := G5.kept.size
    simp at h1
    omega
theorem grew6 {w wr w5 w6 : World} {base r x : Nat} {av avc av5 : Value} {s : ByteArray} {i e a : Nat} {l : List Tm} {vs : List Value} {nm : ByteArray} {xs : List Nat} {v : Value} (G : GR r w av wr avc) (G5 : GR r wr avc w5 av5) (_ : S2 w5 base r av5 s i e a l vs x nm xs v) (hvf : ∀ k, v.ownBlock = some k → w.heap.size ≤ k) (hx : w.heap.size ≤ x) {o : Obj} (hg : (w5.alloc o).grownBy w6 v.ownBlock) (u : Value) : GR r w av (w6.setCell ⟨x, 1, none⟩ u) av5 := by
  have h1 := (G.trans G5).kept0 (Kept.alloc (Kept.refl _ w5) o)
  have h2 : Kept (fun k => v.ownBlock = some k) (w5.alloc o) w6 := Kept.grown (Kept.refl _ _) hg (fun k e => e)
  have h3 := h1.step h2 (fun k _ e => Or.inr (Or.inr (hvf k e)))
  exact h3.step (Kept1.set (nb := x) (Kept.refl _ w6) 1 u) (fun k _ e => Or.inr (Or.inr (by omega)))

set_option maxHeartbeats 8000000 in
set_option maxRecDepth 100000 in
theorem rterm_paren (f : Nat) (IH : ∀ g, g ≤ f → RTermAt g) (w : World) (base r : Nat) (av : Value) (s : ByteArray) (i : Nat) (l : List Tm) (vs : List Value) (deep : Nat) (h : S1 w base r av s i 0 0 l vs) (hGo : Good l) (hf : 2 * (s.size - bl s i) + 1 ≤ f + 1) (hb : l.length + (s.size - bl s i) ≤ 600) (hab : ¬ 12 < deep) (hbad : badNm s (bl s i) = false) (hst : stands s (bl s (nmE s (bl s i))) 40 = true) :
    Calls Tryz.prog 29 #[.pointer (some ⟨r, 0, none⟩), .int .i64 (deep : Int)] w (RPost w base r av s vs (pTerm s (f + 1) deep (bl s i) l)) := by
  have hsm := h.rd.small
  have hple := bl_le h.rd.le
  have NM := rname_in w r s i av 0 0 h.rd
  generalize hres : pTerm s (f + 1) deep (bl s i) l = res
  rw [pTerm] at hres
  unfold NmPost at NM
  rw [hbad] at NM hres
  rw [if_neg (by simp), if_neg hab] at hres
  simp only [Bool.false_eq_true, if_false] at NM
  have hnl := nm_lt hbad
  have hne := nmE_le hple
  have hbe := bl_ge s (nmE s (bl s i))
  have hbel := bl_le hne
  have hbh := behind_lt hst
  have hbhl := behind_le (c := 40) hbel
  have NM2 : Calls Tryz.prog 61 #[.pointer (some ⟨r, 0, none⟩)] w fun x w' => x = .returned (.tuple #[.string (s.extract (bl s i) (nmE s (bl s i))), .int .i64 (bl s i : Int)]) ∧ S1 w' base r av s (nmE s (bl s i)) 0 0 l vs ∧ GR r w av w' av := NM.mono fun x w' hP => ⟨hP.1, h.read hP.2.1 hP.2.2, (GR.refl r w av).kept1 hP.2.1⟩
  clear NM
  generalize s.extract (bl s i) (nmE s (bl s i)) = N at *
  have d12 : ¬ (12 : Int) < (deep : Int) := by omega
  rw [hst, if_pos rfl] at hres
  replace hres := hres.symm
  have hbq : behind s (bl s (nmE s (bl s i))) 40 = bl s (bl s (nmE s (bl s i)) + 1) := behind_true hst
  go_enter Tryz.func29, Tryz.ntmps29
  go_wp2_with (first | (go_at_call 61; refine NM2.mono ?_; rintro e w3 ⟨rfl, S3, G2⟩; have X3 := S3.boxed N; have HA := rhas1_in _ r s _ av 0 0 X3.st.rd 40; rw [isB_ok, hst] at HA) | (go_at_call 62; refine HA.mono ?_; rintro e W ⟨rfl, R4, K4⟩))
  rw [hasI_yes (by rw [isB_ok]; exact hst)] at R4
  have X : S2 W base r av s _ 0 0 l vs w3.heap.size N [] (.slice none 0 0) := X3.read K4 R4
  have G : GR r w av W av := (G2.kept0 (Kept.alloc (Kept.refl _ w3) _)).kept1 K4
  have hxw : w.heap.size ≤ w3.heap.size := G2.kept.size
  clear HA R4 K4 X3 G2 S3
  generalize w3.heap.size = x at *
  obtain ⟨i0, hi0, hz0, hz1, hz2⟩ := info_parts infoI
  generalize hP0 : pArgs s f (deep + 1) (behind s (bl s (nmE s (bl s i))) 40) l [] = P0 at hres
  go_loopw [] (fun W => ∃ (m j : Nat) (avc : Value) (lc : List Tm) (vsc : List Value) (xs : List Nat) (v : Value), S2 W base r avc s j 0 0 lc vsc x N xs v ∧ Hid (m ≤ f ∧ P0 = pArgs s m (deep + 1) (bl s j) lc xs ∧ 2 * (s.size - bl s j) + 2 ≤ m ∧ lc.length + (s.size - bl s j) ≤ 600 ∧ Good lc ∧ NewV w vs vsc ∧ (∀ k, v.ownBlock = some k → w.heap.size ≤ k)) ∧ xs.length ≤ 4 ∧ Hid (GR r w av W avc)) (fun W => s.size - (match W.cell? ⟨r, 1, none⟩ with | some v => (intOf v).toNat | none => 0))
  case atStart => exact ⟨f, _, av, l, vs, [], _, X, ⟨Nat.le_refl f, by rw [← hP0, hbq], by rw [← hbq]; omega, by rw [← hbq]; omega, hGo, NewV.refl w vs, by simp [Value.ownBlock]⟩, by simp, G⟩
  case round =>
    clear X G NM2 hP0
    obtain ⟨m, j, avc, lc, vsc, xs, v, X, ⟨hmf, hPA, hm, hbk, hGc, NV, hvf⟩, hx4, G⟩ := hrel
    obtain ⟨g, rfl⟩ : ∃ g, m = g + 2 := ⟨m - 2, by omega⟩
    have hjl := X.st.rd.le
    have hkl := bl_le hjl
    rw [pArgs_ref s g (deep + 1) (bl s j) lc xs hkl] at hPA
    obtain ⟨ca, cc, hcv⟩ := row_form X.arg
    subst hcv
    have y1 := X.c1
    have rc0 := X.st.rd.c0
    have rc1 := X.st.rd.c1
    have rc3 := X.st.rd.c3
    by_cases h4 : xs.length = 4
    · have d4 : ((xs.length : Int) == 4) = true := beq_iff_eq.2 (by omega)
      have BLK := rblanks_in wr r s j avc 0 0 X.st.rd
      by_cases hks : bl s j < s.size
      · have dk : decide ((bl s j : Int) < (s.size : Int)) = true := decide_eq_true (by omega)
        rw [if_pos ⟨h4, hks⟩] at hPA
        have hr2 : res = .bad 3 (bl s j) lc := by rw [hres, hPA]
        clear hres hPA
        subst hr2
        clear rc0 rc1 rc3 h4
        go_wp2_with (first | (go_at_call 30; refine BLK.mono ?_; rintro e w5 ⟨rfl, R5, K5⟩; have X5 := X.read K5 R5; have rc0 := R5.c0; have rc1 := R5.c1; have rc3 := R5.c3))
        go_quiet (fail)
        have FT : ∀ m, Calls Tryz.prog 31 #[.pointer (some ⟨r, 0, none⟩), .int .i64 ((3 : Nat) : Int), .int .i64 (bl s j : Int)] (w5.drewN m) fun x w' => x = .returned (.tuple #[]) ∧ Rr w' r s (bl s j) avc 3 (bl s j) ∧ Kept1 r (w5.drewN m) w' := fun m => fail_in (w5.drewN m) r s _ avc 0 0 (R5.drewN m) 3 (bl s j)
        have rc1' := (R5.drewN nq).c1
        go_wp2_with (first | (go_at_call 31; refine (FT _).mono ?_; rintro e w6 ⟨rfl, R6, K6⟩; have e6 := R6.c3))
        go_ret
        exact ⟨rfl, avc, _, lc, vsc, ((X5.drewN nq).read K6 R6).st, ((G.out.kept1 K5).step (Kept.drewN (Kept.refl (fun _ => False) w5) nq) (fun _ _ e => e.elim)).kept1 K6, NV⟩
      · have dk : decide ((bl s j : Int) < (s.size : Int)) = false := decide_eq_false (by omega)
        rw [if_neg (by omega)] at hPA
        have hkend : bl s j = s.size := by omega
        have hx : pTerm s (g + 1) (deep + 1) (bl s j) lc = .bad 2 s.size lc := by rw [hkend]; exact pTerm_end s g (deep + 1) lc
        obtain ⟨c, hc⟩ : ∃ c, c = 2 := ⟨_, rfl⟩
        obtain ⟨q, hq⟩ : ∃ q, q = s.size := ⟨_, rfl⟩
        obtain ⟨l2, hl2⟩ : ∃ l2, l2 = lc := ⟨_, rfl⟩
        have hx' : pTerm s (g + 1) (deep + 1) (bl s j) lc = .bad c q l2 := by rw [hx, hc, hq, hl2]
        have hc1 : 1 ≤ c := by omega
        clear hx hc hq hl2 h4
        rename pTerm s (g + 1) (deep + 1) (bl s j) lc = .bad c q l2 => hx
        rw [hx] at hPA
        clear rc0 rc1 rc3
        go_wp2_with (first | (go_at_call 30; refine BLK.mono ?_; rintro e w4 ⟨rfl, R4, K4⟩; have rc0 := R4.c0; have rc1 := R4.c1; have rc3 := R4.c3; have y14 := (X.read K4 R4).c1))
        go_quiet (fail)
        have X4 := (X.read K4 R4).drewN nq
        have G4 : Hid (GR r w av (w4.drewN nq) avc) := (G.out.kept1 K4).step (Kept.drewN (Kept.refl (fun _ => False) w4) nq) (fun _ _ e => e.elim)
        clear X G rc0 rc1 rc3 y1 y14 BLK K4 R4
        rename S2 _ _ _ _ _ _ _ _ _ _ _ _ _ _ => X
        rename Hid (GR r w av (w4.drewN nq) avc) => G
        have TM := IH (g + 1) (by omega) (w4.drewN nq) base r avc s (bl s j) lc vsc (deep + 1) X.st hGc (by rw [bl_bl]; omega) (by rw [bl_bl]; exact hbk) (by omega)
        rw [show ((deep + 1 : Nat) : Int) = (deep : Int) + 1 from by omega, bl_bl, hx] at TM
        have y1 := X.c1
        have rc3 := X.st.rd.c3
        go_wp2_with (first | (go_at_call 29; refine TM.mono ?_; rintro e w5 ⟨rfl, av5, i5, l5, vs5, S5, G5, N5⟩; have PP := X.inner G5 N5 S5; have p1 := PP.c1) | (at_builtin; go_loud (refine wpList_append_here rfl _ _ 39 rfl base 3 i0 _ 1 8 Tryz.underlying39 hi0 hz0 hz1 hz2 rfl (by decide) _ _ (argC xs) rfl (PP.arg.alloc _) ⟨w5.heap.size, 0, none⟩ 1 1 [.int .i64 (0 : Int)] rfl rfl (one_new _ _ _) (by simp [Value.oneCell']) (by unfold maxLen; omega) (by omega) (by have := PP.st.bs; simp; omega) ?_; intro v6 w6 hown6 hgr6 hloc6; obtain ⟨va6, vc6, hv6⟩ := row_form hown6; subst hv6; have PA := PP.kept0 (Kept.alloc (Kept.refl _ w5) (.cells #[.int .i64 (0 : Int)] 3)); have b6 := World.rowIs.of_block PA.box (hgr6.block x PA.box.lt (fun z => row_ne PA.arg PA.box (by decide) z.symm)); have bc6 := World.rowIs.cell b6 (i := 1) (by omega); have bf6 := World.rowIs.frozen b6 1; have Y := PA.push 0 hown6 hgr6 hloc6; have hv6 : ∀ k, (Value.slice va6 (xs.length + 1) vc6).ownBlock = some k → w.heap.size ≤ k := hvf6 G.out G5 PP hvf hloc6; have G6 : GR r w av (w6.setCell ⟨x, 1, none⟩ (.slice va6 (xs.length + 1) vc6)) av5 := grew6 G.out G5 PP hvf hxw hgr6 _; have HC := rhas1_in _ r s _ av5 c q Y.st.rd 44; rw [isB_err hc1] at HC)) | (go_at_call 31; refine FE.mono ?_; rintro e W ⟨rfl, R9, K9⟩) | (go_at_call 62; refine HD.mono ?_; rintro e w8 ⟨rfl, R8, K8⟩; have Y8 := Y7.read K8 R8; have u1 := R8.c1; have FE := fail_in w8 r s _ av5 c q R8 2 (hasI s (hasI s i5 c 44) c 41); rw [failE_err hc1, failA_err hc1] at FE) | (go_at_call 62; refine HC.mono ?_; rintro e w7 ⟨rfl, R7, K7⟩; have Y7 := Y.read K7 R7; have HD := rhas1_in w7 r s _ av5 c q R7 41; rw [isB_err hc1] at HD))
        have X9 := Y8.read K9 R9
        have G9 := ((G6.kept1 K7).kept1 K8).kept1 K9
        have NV9 := NV.trans N5 G.out.kept.size
        have hr2 : res = .bad c q l2 := by rw [hres, hPA]
        have h5 : (xs ++ [0]).length ≤ 5 := by simp; omega
        clear X G NV hres
        have gen : ∃ (c q : Nat) (avc : Value) (lc : List Tm) (vsc : List Value) (xs : List Nat) (v : Value) (j : Nat) (lx : List Tm), 1 ≤ c ∧ xs.length ≤ 5 ∧ S2 W base r avc s j c q lc vsc x N xs v ∧ GR r w av W avc ∧ NewV w vs vsc ∧ res = .bad c q lx := ⟨c, q, av5, l5, vs5, xs ++ [0], _, _, _, hc1, h5, X9, G9, NV9, hr2⟩
        clear X9 G9 NV9 hr2 h5 Y8 Y7 Y PP PA TM y1 rc3 p1 bc6 bf6 b6 HC HD FE hown6 hgr6 hloc6 d4 hPA hx S5 G5 N5 G6 R7 K7 R8 K8 R9 K9 u1 hv6 hvf hGc hx4 hc1
        obtain ⟨c, q, avc, lc, vsc, xs, v, j, lx, hc1, hx5, X, G, NV, rfl⟩ := gen
        obtain ⟨ca, cc, hcv⟩ := row_form X.arg
        subst hcv
        have rc2 := X.st.rd.c2
        have rc3 := X.st.rd.c3
        have y0 := X.c0
        have y1 := X.c1
        have dE : ((c : Int) != 0) = true := by simp; omega
        have CL : ∀ m, Calls Tryz.prog 63 #[avc, .agg #[.string N, .slice ca xs.length cc]] (W.drewN m) fun e w' => e = .returned (.bool (clashB lc ⟨N, xs⟩)) ∧ Kept0 (W.drewN m) w' := fun m => clashes_in (W.drewN m) base avc lc vsc (X.st.ls.drewN m) X.st.lo ⟨N, xs⟩ (.slice ca xs.length cc) X.arg (by simpa using hx5) X.st.four
        cases hcl : clashB lc ⟨N, xs⟩ with
        | false =>
          rw [hcl] at CL
          go_region_with (go_at_call 63; refine (CL _).mono ?_; rintro e w7 ⟨rfl, K7⟩; have X7 := (X.drewN _).kept0 K7; have e7 := X7.st.rd.c3)
          all_goals
            go_wp2_with fail
            go_ret
            exact ⟨rfl, avc, _, lc, vsc, X7.st, (G.step (Kept.drewN (Kept.refl (fun _ => False) W) _) (fun _ _ e => e.elim)).kept0 K7, NV⟩
        | true =>
          rw [hcl] at CL
          go_region_with (go_at_call 63; refine (CL _).mono ?_; rintro e w7 ⟨rfl, K7⟩; have X7 := (X.drewN _).kept0 K7; have FL := fail_in w7 r s _ avc c q X7.st.rd 5 (bl s i); rw [failE_err hc1, failA_err hc1] at FL)
          all_goals
            go_wp2_with (go_at_call 31; refine FL.mono ?_; rintro e w8 ⟨rfl, R8, K8⟩; have e8 := R8.c3)
            go_ret
            exact ⟨rfl, avc, _, lc, vsc, (X7.read K8 R8).st, ((G.step (Kept.drewN (Kept.refl (fun _ => False) W) _) (fun _ _ e => e.elim)).kept0 K7).kept1 K8, NV⟩
    · have d4 : ((xs.length : Int) == 4) = false := beq_eq_false_iff_ne.2 (by omega)
      rw [if_neg (by omega)] at hPA
      have TM := IH (g + 1) (by omega) wr base r avc s j lc vsc (deep + 1) X.st hGc (by omega) hbk (by omega)
      rw [show ((deep + 1 : Nat) : Int) = (deep : Int) + 1 from by omega] at TM
      cases hx : pTerm s (g + 1) (deep + 1) (bl s j) lc with
      | bad c q l2 =>
        rw [hx] at TM hPA
        have hc1 := ((p_bad s (g + 1)).1 (deep + 1) (bl s j) lc c q l2 hkl (by omega) hx).1
        go_wp2_with (first | (go_at_call 29; refine TM.mono ?_; rintro e w5 ⟨rfl, av5, i5, l5, vs5, S5, G5, N5⟩; have PP := X.inner G5 N5 S5; have p1 := PP.c1) | (at_builtin; go_loud (refine wpList_append_here rfl _ _ 39 rfl base 3 i0 _ 1 8 Tryz.underlying39 hi0 hz0 hz1 hz2 rfl (by decide) _ _ (argC xs) rfl (PP.arg.alloc _) ⟨w5.heap.size, 0, none⟩ 1 1 [.int .i64 (0 : Int)] rfl rfl (one_new _ _ _) (by simp [Value.oneCell']) (by unfold maxLen; omega) (by omega) (by have := PP.st.bs; simp; omega) ?_; intro v6 w6 hown6 hgr6 hloc6; obtain ⟨va6, vc6, hv6⟩ := row_form hown6; subst hv6; have PA := PP.kept0 (Kept.alloc (Kept.refl _ w5) (.cells #[.int .i64 (0 : Int)] 3)); have b6 := World.rowIs.of_block PA.box (hgr6.block x PA.box.lt (fun z => row_ne PA.arg PA.box (by decide) z.symm)); have bc6 := World.rowIs.cell b6 (i := 1) (by omega); have bf6 := World.rowIs.frozen b6 1; have Y := PA.push 0 hown6 hgr6 hloc6; have hv6 : ∀ k, (Value.slice va6 (xs.length + 1) vc6).ownBlock = some k → w.heap.size ≤ k := hvf6 G.out G5 PP hvf hloc6; have G6 : GR r w av (w6.setCell ⟨x, 1, none⟩ (.slice va6 (xs.length + 1) vc6)) av5 := grew6 G.out G5 PP hvf hxw hgr6 _; have HC := rhas1_in _ r s _ av5 c q Y.st.rd 44; rw [isB_err hc1] at HC)) | (go_at_call 31; refine FE.mono ?_; rintro e W ⟨rfl, R9, K9⟩) | (go_at_call 62; refine HD.mono ?_; rintro e w8 ⟨rfl, R8, K8⟩; have Y8 := Y7.read K8 R8; have u1 := R8.c1; have FE := fail_in w8 r s _ av5 c q R8 2 (hasI s (hasI s i5 c 44) c 41); rw [failE_err hc1, failA_err hc1] at FE) | (go_at_call 62; refine HC.mono ?_; rintro e w7 ⟨rfl, R7, K7⟩; have Y7 := Y.read K7 R7; have HD := rhas1_in w7 r s _ av5 c q R7 41; rw [isB_err hc1] at HD))
        have X9 := Y8.read K9 R9
        have G9 := ((G6.kept1 K7).kept1 K8).kept1 K9
        have NV9 := NV.trans N5 G.out.kept.size
        have hr2 : res = .bad c q l2 := by rw [hres, hPA]
        have h5 : (xs ++ [0]).length ≤ 5 := by simp; omega
        clear X G NV hres
        have gen : ∃ (c q : Nat) (avc : Value) (lc : List Tm) (vsc : List Value) (xs : List Nat) (v : Value) (j : Nat) (lx : List Tm), 1 ≤ c ∧ xs.length ≤ 5 ∧ S2 W base r avc s j c q lc vsc x N xs v ∧ GR r w av W avc ∧ NewV w vs vsc ∧ res = .bad c q lx := ⟨c, q, av5, l5, vs5, xs ++ [0], _, _, _, hc1, h5, X9, G9, NV9, hr2⟩
        clear X9 G9 NV9 hr2 h5 Y8 Y7 Y PP PA TM y1 rc3 p1 bc6 bf6 b6 HC HD FE hown6 hgr6 hloc6 d4 hPA hx S5 G5 N5 G6 R7 K7 R8 K8 R9 K9 u1 hv6 hvf hGc hx4 hc1
        obtain ⟨c, q, avc, lc, vsc, xs, v, j, lx, hc1, hx5, X, G, NV, rfl⟩ := gen
        obtain ⟨ca, cc, hcv⟩ := row_form X.arg
        subst hcv
        have rc2 := X.st.rd.c2
        have rc3 := X.st.rd.c3
        have y0 := X.c0
        have y1 := X.c1
        have dE : ((c : Int) != 0) = true := by simp; omega
        have CL : ∀ m, Calls Tryz.prog 63 #[avc, .agg #[.string N, .slice ca xs.length cc]] (W.drewN m) fun e w' => e = .returned (.bool (clashB lc ⟨N, xs⟩)) ∧ Kept0 (W.drewN m) w' := fun m => clashes_in (W.drewN m) base avc lc vsc (X.st.ls.drewN m) X.st.lo ⟨N, xs⟩ (.slice ca xs.length cc) X.arg (by simpa using hx5) X.st.four
        cases hcl : clashB lc ⟨N, xs⟩ with
        | false =>
          rw [hcl] at CL
          go_region_with (go_at_call 63; refine (CL _).mono ?_; rintro e w7 ⟨rfl, K7⟩; have X7 := (X.drewN _).kept0 K7; have e7 := X7.st.rd.c3)
          all_goals
            go_wp2_with fail
            go_ret
            exact ⟨rfl, avc, _, lc, vsc, X7.st, (G.step (Kept.drewN (Kept.refl (fun _ => False) W) _) (fun _ _ e => e.elim)).kept0 K7, NV⟩
        | true =>
          rw [hcl] at CL
          go_region_with (go_at_call 63; refine (CL _).mono ?_; rintro e w7 ⟨rfl, K7⟩; have X7 := (X.drewN _).kept0 K7; have FL := fail_in w7 r s _ avc c q X7.st.rd 5 (bl s i); rw [failE_err hc1, failA_err hc1] at FL)
          all_goals
            go_wp2_with (go_at_call 31; refine FL.mono ?_; rintro e w8 ⟨rfl, R8, K8⟩; have e8 := R8.c3)
            go_ret
            exact ⟨rfl, avc, _, lc, vsc, (X7.read K8 R8).st, ((G.step (Kept.drewN (Kept.refl (fun _ => False) W) _) (fun _ _ e => e.elim)).kept0 K7).kept1 K8, NV⟩
      | ok n k2 l2 =>
        rw [hx] at TM hPA
        simp only at hPA
        have hGl := (p_good s (g + 1)).1 (deep + 1) (bl s j) lc n k2 l2 hkl hGc hx
        obtain ⟨hk2, hk2l⟩ := ((p_grows s (g + 1)).1 (deep + 1) (bl s j) lc hkl).2 n k2 l2 hx
        obtain ⟨hcn, hcl⟩ := (p_count s (g + 1)).1 (deep + 1) (bl s j) lc n k2 l2 hkl hx
        cases h44 : stands s k2 44 with
        | true =>
          rw [h44, if_pos rfl] at hPA
          have hb44 := behind_lt h44
          have hb44l := behind_le (c := 44) hk2l
          have hbt : behind s k2 44 = bl s (k2 + 1) := behind_true h44
          go_wp2_with (first | (go_at_call 29; refine TM.mono ?_; rintro e w5 ⟨rfl, av5, i5, vs5, S5, hi5, G5, N5⟩; have PP := X.inner G5 N5 S5; have p1 := PP.c1) | (at_builtin; go_loud (refine wpList_append_here rfl _ _ 39 rfl base 3 i0 _ 1 8 Tryz.underlying39 hi0 hz0 hz1 hz2 rfl (by decide) _ _ (argC xs) rfl (PP.arg.alloc _) ⟨w5.heap.size, 0, none⟩ 1 1 [.int .i64 (n : Int)] rfl rfl (one_new _ _ _) (by simp [Value.oneCell']) (by unfold maxLen; omega) (by omega) (by have := PP.st.bs; simp; omega) ?_; intro v6 w6 hown6 hgr6 hloc6; obtain ⟨va6, vc6, hv6⟩ := row_form hown6; subst hv6; have PA := PP.kept0 (Kept.alloc (Kept.refl _ w5) (.cells #[.int .i64 (n : Int)] 3)); have b6 := World.rowIs.of_block PA.box (hgr6.block x PA.box.lt (fun z => row_ne PA.arg PA.box (by decide) z.symm)); have bc6 := World.rowIs.cell b6 (i := 1) (by omega); have bf6 := World.rowIs.frozen b6 1; have Y := PA.push n hown6 hgr6 hloc6; have hv6 : ∀ k, (Value.slice va6 (xs.length + 1) vc6).ownBlock = some k → w.heap.size ≤ k := hvf6 G.out G5 PP hvf hloc6; have G6 : GR r w av (w6.setCell ⟨x, 1, none⟩ (.slice va6 (xs.length + 1) vc6)) av5 := grew6 G.out G5 PP hvf hxw hgr6 _; have HC := rhas1_in _ r s _ av5 0 0 Y.st.rd 44; rw [isB_ok, hi5, h44] at HC)) | (go_at_call 62; refine HC.mono ?_; rintro e w7 ⟨rfl, R7, K7⟩))
          rw [hasI_yes (by rw [isB_ok, hi5]; exact h44), hi5] at R7
          go_roundw
          case rel => exact ⟨g + 1, k2 + 1, av5, l2, vs5, xs ++ [n], _, Y.read K7 R7, ⟨by omega, by rw [← hbt]; exact hPA, by rw [← hbt]; omega, by rw [← hbt]; omega, hGl, NV.trans N5 G.out.kept.size, hv6⟩, by simp; omega, G6.kept1 K7⟩
          case measure =>
            have hq1 := bl_ge s j
            have hq2 := R7.le
            rw [X.st.rd.c1, R7.c1]
            simp [intOf]
            omega
        | false =>
          rw [h44, if_neg (by simp)] at hPA
          cases h41 : stands s k2 41 with
          | true =>
            rw [h41, if_pos rfl] at hPA
            have hb41 := behind_lt h41
            have hbt : behind s k2 41 = bl s (k2 + 1) := behind_true h41
            go_wp2_with (first | (go_at_call 29; refine TM.mono ?_; rintro e w5 ⟨rfl, av5, i5, vs5, S5, hi5, G5, N5⟩; have PP := X.inner G5 N5 S5; have p1 := PP.c1) | (at_builtin; go_loud (refine wpList_append_here rfl _ _ 39 rfl base 3 i0 _ 1 8 Tryz.underlying39 hi0 hz0 hz1 hz2 rfl (by decide) _ _ (argC xs) rfl (PP.arg.alloc _) ⟨w5.heap.size, 0, none⟩ 1 1 [.int .i64 (n : Int)] rfl rfl (one_new _ _ _) (by simp [Value.oneCell']) (by unfold maxLen; omega) (by omega) (by have := PP.st.bs; simp; omega) ?_; intro v6 w6 hown6 hgr6 hloc6; obtain ⟨va6, vc6, hv6⟩ := row_form hown6; subst hv6; have PA := PP.kept0 (Kept.alloc (Kept.refl _ w5) (.cells #[.int .i64 (n : Int)] 3)); have b6 := World.rowIs.of_block PA.box (hgr6.block x PA.box.lt (fun z => row_ne PA.arg PA.box (by decide) z.symm)); have bc6 := World.rowIs.cell b6 (i := 1) (by omega); have bf6 := World.rowIs.frozen b6 1; have Y := PA.push n hown6 hgr6 hloc6; have hv6 : ∀ k, (Value.slice va6 (xs.length + 1) vc6).ownBlock = some k → w.heap.size ≤ k := hvf6 G.out G5 PP hvf hloc6; have G6 : GR r w av (w6.setCell ⟨x, 1, none⟩ (.slice va6 (xs.length + 1) vc6)) av5 := grew6 G.out G5 PP hvf hxw hgr6 _; have HC := rhas1_in _ r s _ av5 0 0 Y.st.rd 44; rw [isB_ok, hi5, h44] at HC)) | (go_at_call 62; refine HD.mono ?_; rintro e W ⟨rfl, R8, K8⟩) | (go_at_call 62; refine HC.mono ?_; rintro e w7 ⟨rfl, R7, K7⟩; rw [hasI_no (by rw [isB_ok, hi5]; exact h44), hi5] at R7; have Y7 := Y.read K7 R7; have HD := rhas1_in w7 r s _ av5 0 0 R7 41; rw [isB_ok, show bl s k2 = k2 from by rw [← hi5, bl_bl], h41] at HD))
            have hbk2 : bl s k2 = k2 := by rw [← hi5, bl_bl]
            rw [hasI_yes (by rw [isB_ok, hbk2]; exact h41), hbk2] at R8
            have X8 := Y7.read K8 R8
            have G8 := (G6.kept1 K7).kept1 K8
            have NV8 := NV.trans N5 G.out.kept.size
            have hr2 : res = pEnd ⟨N, xs ++ [n]⟩ (bl s i) (bl s (k2 + 1)) l2 := by rw [hres, hPA, hbt]
            have hb2 : l2.length < 1000 := by have := X8.st.rd.le; omega
            have h54 : (xs ++ [n]).length ≤ 4 := by simp; omega
            clear X G NV hres hvf hGc hx4
            have gen : ∃ (avc : Value) (lc : List Tm) (vsc : List Value) (xs : List Nat) (v : Value) (j : Nat), xs.length ≤ 4 ∧ S2 W base r avc s j 0 0 lc vsc x N xs v ∧ GR r w av W avc ∧ NewV w vs vsc ∧ (∀ k, v.ownBlock = some k → w.heap.size ≤ k) ∧ Good lc ∧ lc.length < 1000 ∧ res = pEnd ⟨N, xs⟩ (bl s i) (bl s j) lc := ⟨av5, l2, vs5, xs ++ [n], _, k2 + 1, h54, X8, G8, NV8, hv6, hGl, hb2, hr2⟩
            clear X8 G8 NV8 hr2 hv6 hGl hb2 h54 Y7 Y PP PA TM y1 rc0 rc1 rc3 p1 bc6 bf6 b6 HC HD hown6 hgr6 hloc6 d4 hPA hx S5 G5 N5 G6 R7 K7 R8 K8
            obtain ⟨avc, lc, vsc, xs, v, j, hx4, X, G, NV, hvf, hGc, hlc, hres⟩ := gen
            obtain ⟨ca, cc, hcv⟩ := row_form X.arg
            subst hcv
            have rc2 := X.st.rd.c2
            have rc3 := X.st.rd.c3
            have y0 := X.c0
            have y1 := X.c1
            have CL : ∀ m, Calls Tryz.prog 63 #[avc, .agg #[.string N, .slice ca xs.length cc]] (W.drewN m) fun e w' => e = .returned (.bool (clashB lc ⟨N, xs⟩)) ∧ Kept0 (W.drewN m) w' := fun m => clashes_in (W.drewN m) base avc lc vsc (X.st.ls.drewN m) X.st.lo ⟨N, xs⟩ (.slice ca xs.length cc) X.arg (by simp; omega) X.st.four
            cases hcl : clashB lc ⟨N, xs⟩ with
            | true =>
              rw [hcl] at CL
              have hfit : fitsB lc ⟨N, xs⟩ = false := by have := clash_fits hGc ⟨N, xs⟩; rw [hcl] at this; simpa using this.symm
              have hr2 : res = .bad 5 (bl s i) lc := by rw [hres, pEnd, hfit]; rfl
              clear hres
              subst hr2
              go_region_with (go_at_call 63; refine (CL _).mono ?_; rintro e w7 ⟨rfl, K7⟩; have X7 := (X.drewN _).kept0 K7; have FL : Calls Tryz.prog 31 #[.pointer (some ⟨r, 0, none⟩), .int .i64 ((5 : Nat) : Int), .int .i64 (bl s i : Int)] w7 fun x w' => x = .returned (.tuple #[]) ∧ Rr w' r s _ avc 5 (bl s i) ∧ Kept1 r w7 w' := fail_in w7 r s _ avc 0 0 X7.st.rd 5 (bl s i))
              all_goals
                go_wp2_with (go_at_call 31; refine FL.mono ?_; rintro e w8 ⟨rfl, R8, K8⟩; have e8 := R8.c3)
                go_ret
                exact ⟨rfl, avc, _, lc, vsc, (X7.read K8 R8).st, ((G.step (Kept.drewN (Kept.refl (fun _ => False) W) _) (fun _ _ e => e.elim)).kept0 K7).kept1 K8, NV⟩
            | false =>
              rw [hcl] at CL
              have hfit : fitsB lc ⟨N, xs⟩ = true := by have := clash_fits hGc ⟨N, xs⟩; rw [hcl] at this; simpa using this.symm
              have hr2 : res = .ok (addN lc ⟨N, xs⟩) (bl s j) (addL lc ⟨N, xs⟩) := by rw [hres, pEnd, hfit]; rfl
              clear hres
              subst hr2
              go_region_with (go_at_call 63; refine (CL _).mono ?_; rintro e w7 ⟨rfl, K7⟩; have X7 := (X.drewN _).kept0 K7; have e7 := X7.st.rd.c3; have e72 := X7.st.rd.c2; have z0 := X7.c0; have z1 := X7.c1)
              all_goals
                clear rc2 rc3 y0 y1 CL
                have PUT : ∀ m, Calls Tryz.prog 64 #[avc, .agg #[.string N, .slice ca xs.length cc]] (w7.drewN m) (PutPost (w7.drewN m) base avc lc vsc ⟨N, xs⟩ (.slice ca xs.length cc)) := fun m => put_in (w7.drewN m) base avc lc vsc (X7.st.ls.drewN m) X7.st.lo ⟨N, xs⟩ (.slice ca xs.length cc) X7.arg X7.st.four X7.st.bs
                go_wp2_with fail
                go_region_with (go_at_call 64; refine (PUT _).mono ?_; rintro e w9 ⟨av9, rfl, L9, K9, loc9⟩; have R9 : Rr w9 r s _ avc 0 0 := (X7.st.rd.drewN _).of_block (K9.block r X7.st.rd.row.lt (row_ne X7.st.ls.row X7.st.rd.row (by decide))); have q2 := R9.c2; have q3 := R9.row.frozen 2; obtain ⟨pa, pc, hpv⟩ := L9.form; subst hpv)
                all_goals
                  go_wp2_with fail
                  go_ret
                  have SS := (X7.st.drewN _).stored K9 L9 (by have := addL_len lc ⟨N, xs⟩; omega) (fun u hu => by
                    rcases addL_mem hu with y | y
                    · exact X7.st.four u y
                    · rw [y]; exact hx4)
                  have GB := ((G.step (Kept.drewN (Kept.refl (fun _ => False) W) 1) (fun _ _ e => e.elim)).kept0 K7)
                  have GC := (GB.step (Kept.drewN (Kept.refl (fun _ => False) w7) 1) (fun _ _ e => e.elim)).step K9 (fun k _ e => Or.inr (Or.inl e))
                  have hsz : w.heap.size ≤ w7.heap.size := GB.kept.size
                  refine ⟨rfl, _, j, _, SS, rfl, ⟨(GC.step (Kept1.set (nb := r) (Kept.refl _ w9) 2 _) (fun _ _ e => Or.inl e)).kept, ?_⟩, ?_⟩
                  · rcases loc9 with e | e
                    · rcases G.row with e2 | e2
                      · exact Or.inl (e.trans e2)
                      · exact Or.inr fun k hk => e2 k (e ▸ hk)
                    · exact Or.inr fun k hk => Nat.le_trans hsz (e k hk)
                  · intro u hu
                    rcases putV_mem hu with y | y
                    · exact NV u y
                    · rw [y]; exact Or.inr hvf
          | false =>
            rw [h41, if_neg (by simp)] at hPA
            go_wp2_with (first | (go_at_call 29; refine TM.mono ?_; rintro e w5 ⟨rfl, av5, i5, vs5, S5, hi5, G5, N5⟩; have PP := X.inner G5 N5 S5; have p1 := PP.c1) | (at_builtin; go_loud (refine wpList_append_here rfl _ _ 39 rfl base 3 i0 _ 1 8 Tryz.underlying39 hi0 hz0 hz1 hz2 rfl (by decide) _ _ (argC xs) rfl (PP.arg.alloc _) ⟨w5.heap.size, 0, none⟩ 1 1 [.int .i64 (n : Int)] rfl rfl (one_new _ _ _) (by simp [Value.oneCell']) (by unfold maxLen; omega) (by omega) (by have := PP.st.bs; simp; omega) ?_; intro v6 w6 hown6 hgr6 hloc6; obtain ⟨va6, vc6, hv6⟩ := row_form hown6; subst hv6; have PA := PP.kept0 (Kept.alloc (Kept.refl _ w5) (.cells #[.int .i64 (n : Int)] 3)); have b6 := World.rowIs.of_block PA.box (hgr6.block x PA.box.lt (fun z => row_ne PA.arg PA.box (by decide) z.symm)); have bc6 := World.rowIs.cell b6 (i := 1) (by omega); have bf6 := World.rowIs.frozen b6 1; have Y := PA.push n hown6 hgr6 hloc6; have hv6 : ∀ k, (Value.slice va6 (xs.length + 1) vc6).ownBlock = some k → w.heap.size ≤ k := hvf6 G.out G5 PP hvf hloc6; have G6 : GR r w av (w6.setCell ⟨x, 1, none⟩ (.slice va6 (xs.length + 1) vc6)) av5 := grew6 G.out G5 PP hvf hxw hgr6 _; have HC := rhas1_in _ r s _ av5 0 0 Y.st.rd 44; rw [isB_ok, hi5, h44] at HC)) | (go_at_call 31; refine FE.mono ?_; rintro e W ⟨rfl, R9, K9⟩) | (go_at_call 62; refine HD.mono ?_; rintro e w8 ⟨rfl, R8, K8⟩; rw [hasI_no (by rw [isB_ok, show bl s k2 = k2 from by rw [← hi5, bl_bl]]; exact h41), show bl s k2 = k2 from by rw [← hi5, bl_bl]] at R8; have Y8 := Y7.read K8 R8; have u1 := R8.c1; have FE : Calls Tryz.prog 31 #[.pointer (some ⟨r, 0, none⟩), .int .i64 ((2 : Nat) : Int), .int .i64 (k2 : Int)] w8 fun x w' => x = .returned (.tuple #[]) ∧ Rr w' r s k2 av5 2 k2 ∧ Kept1 r w8 w' := fail_in w8 r s _ av5 0 0 R8 2 k2) | (go_at_call 62; refine HC.mono ?_; rintro e w7 ⟨rfl, R7, K7⟩; rw [hasI_no (by rw [isB_ok, hi5]; exact h44), hi5] at R7; have Y7 := Y.read K7 R7; have HD := rhas1_in w7 r s _ av5 0 0 R7 41; rw [isB_ok, show bl s k2 = k2 from by rw [← hi5, bl_bl], h41] at HD))
            have X9 := Y8.read K9 R9
            have G9 := ((G6.kept1 K7).kept1 K8).kept1 K9
            have NV9 := NV.trans N5 G.out.kept.size
            have hr2 : res = .bad 2 k2 l2 := by rw [hres, hPA]
            have h5 : (xs ++ [n]).length ≤ 5 := by simp; omega
            clear X G NV hres
            have gen : ∃ (c q : Nat) (avc : Value) (lc : List Tm) (vsc : List Value) (xs : List Nat) (v : Value) (j : Nat) (lx : List Tm), 1 ≤ c ∧ xs.length ≤ 5 ∧ S2 W base r avc s j c q lc vsc x N xs v ∧ GR r w av W avc ∧ NewV w vs vsc ∧ res = .bad c q lx := ⟨2, k2, av5, l2, vs5, xs ++ [n], _, _, _, by omega, h5, X9, G9, NV9, hr2⟩
            clear X9 G9 NV9 hr2 h5 Y8 Y7 Y PP PA TM y1 rc0 rc1 rc3 p1 bc6 bf6 b6 HC HD FE hown6 hgr6 hloc6 d4 hPA hx S5 G5 N5 G6 R7 K7 R8 K8 R9 K9 u1 hv6 hvf hGc hx4
            obtain ⟨c, q, avc, lc, vsc, xs, v, j, lx, hc1, hx5, X, G, NV, rfl⟩ := gen
            obtain ⟨ca, cc, hcv⟩ := row_form X.arg
            subst hcv
            have rc2 := X.st.rd.c2
            have rc3 := X.st.rd.c3
            have y0 := X.c0
            have y1 := X.c1
            have dE : ((c : Int) != 0) = true := by simp; omega
            have CL : ∀ m, Calls Tryz.prog 63 #[avc, .agg #[.string N, .slice ca xs.length cc]] (W.drewN m) fun e w' => e = .returned (.bool (clashB lc ⟨N, xs⟩)) ∧ Kept0 (W.drewN m) w' := fun m => clashes_in (W.drewN m) base avc lc vsc (X.st.ls.drewN m) X.st.lo ⟨N, xs⟩ (.slice ca xs.length cc) X.arg (by simpa using hx5) X.st.four
            cases hcl : clashB lc ⟨N, xs⟩ with
            | false =>
              rw [hcl] at CL
              go_region_with (go_at_call 63; refine (CL _).mono ?_; rintro e w7 ⟨rfl, K7⟩; have X7 := (X.drewN _).kept0 K7; have e7 := X7.st.rd.c3)
              all_goals
                go_wp2_with fail
                go_ret
                exact ⟨rfl, avc, _, lc, vsc, X7.st, (G.step (Kept.drewN (Kept.refl (fun _ => False) W) _) (fun _ _ e => e.elim)).kept0 K7, NV⟩
            | true =>
              rw [hcl] at CL
              go_region_with (go_at_call 63; refine (CL _).mono ?_; rintro e w7 ⟨rfl, K7⟩; have X7 := (X.drewN _).kept0 K7; have FL := fail_in w7 r s _ avc c q X7.st.rd 5 (bl s i); rw [failE_err hc1, failA_err hc1] at FL)
              all_goals
                go_wp2_with (go_at_call 31; refine FL.mono ?_; rintro e w8 ⟨rfl, R8, K8⟩; have e8 := R8.c3)
                go_ret
                exact ⟨rfl, avc, _, lc, vsc, (X7.read K8 R8).st, ((G.step (Kept.drewN (Kept.refl (fun _ => False) W) _) (fun _ _ e => e.elim)).kept0 K7).kept1 K8, NV⟩

end Go.Proofs.YtlehlgipbhfioaaGreat
