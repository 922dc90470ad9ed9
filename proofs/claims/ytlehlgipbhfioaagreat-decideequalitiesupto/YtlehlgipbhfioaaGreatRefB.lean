/- The document's reader: name. -/
import Derived.Test.YtlehlgipbhfioaaGreatP17
namespace Go.Proofs.YtlehlgipbhfioaaGreat
open Go.RowKit

def NmPost (w : World) (r : Nat) (av : Value) (s : ByteArray) (i e a : Nat) (x : Ending) (w' : World) : Prop :=
  x = .returned (.tuple #[.string (s.extract (bl s i) (nmE s (bl s i))), .int .i64 (bl s i : Int)]) ∧ Kept1 r w w' ∧
    (if badNm s (bl s i) = true then Rr w' r s (nmE s (bl s i)) av (failE e 2) (failA e a (bl s i)) else Rr w' r s (nmE s (bl s i)) av e a)

set_option maxHeartbeats 4000000 in
theorem rname_in (w : World) (r : Nat) (s : ByteArray) (i : Nat) (av : Value) (e a : Nat) (h : Rr w r s i av e a) :
    Calls Tryz.prog 61 #[.pointer (some ⟨r, 0, none⟩)] w (NmPost w r av s i e a) := by
  have hs := h.small
  have BL := rblanks_in w r s i av e a h
  have hple := bl_le h.le
  unfold NmPost
  generalize hpp : bl s i = p at *
  go_enter Tryz.func61, Tryz.ntmps61
  go_wp2_with (go_at_call 30; refine BL.mono ?_; rintro e w2 ⟨rfl, R2, K2⟩; have c1 := R2.c1)
  go_loopw [] (fun W => ∃ k : Nat, Rr W r s k av e a ∧ Hid (nmE s k = nmE s p) ∧ Hid (Kept1 r w W)) (fun W => s.size - (match W.cell? ⟨r, 1, none⟩ with | some v => (intOf v).toNat | none => 0))
  case atStart => exact ⟨p, R2, rfl, K2⟩
  case round =>
    obtain ⟨k, hR, hb, hK⟩ := hrel
    clear c1 R2 K2 BL
    have c0 := hR.c0
    have c1 := hR.c1
    have f1 := hR.row.frozen 1
    have hle := hR.le
    by_cases h1 : k < s.size
    · have d1 : decide ((k : Int) < s.size) = true := decide_eq_true (by omega)
      have LET : ∀ m, Calls Tryz.prog 106 #[.int .u8 ((s[k]).toNat : Nat)] (wr.drewN m) fun e w' => e = .returned (.bool (isLet (byt s k))) ∧ w' = wr.drewN m := fun m => (rletter_any _ _).mono fun _ _ x => ⟨by rw [x.1, byt_lt h1], x.2.symm⟩
      have DIG : ∀ m, Calls Tryz.prog 107 #[.int .u8 ((s[k]).toNat : Nat)] (wr.drewN m) fun e w' => e = .returned (.bool (isDig (byt s k))) ∧ w' = wr.drewN m := fun m => (rdigit_any _ _).mono fun _ _ x => ⟨by rw [x.1, byt_lt h1], x.2.symm⟩
      cases hl : isLet (byt s k) with
      | true =>
        rw [hl] at LET
        have hn : isNm (byt s k) = true := by simp [isNm, hl]
        go_wp2_with fail
        go_quiet ((go_at_call 106; exact Calls.quiet_of_same (LET _)))
        go_wp2_with fail
        refine ⟨⟨k + 1, ?_, (nmE_at h1 hn).symm.trans hb, Kept1.set (hK.drewN _) _ _⟩, ?_⟩
        · have := (hR.drewN nq).step (k := k + 1) (by omega)
          simpa using this
        · have hn := ((hR.drewN nq).step (k := k + 1) (by omega)).c1
          have hn' : ((wr.drewN nq).setCell ⟨r, 1, none⟩ (.int .i64 ((k : Int) + 1))).cell? ⟨r, 1, none⟩ = some (.int .i64 ((k : Int) + 1)) := by simpa using hn
          rw [c1, hn']
          simp only [intOf]
          omega
      | false =>
        rw [hl] at LET
        cases hd : isDig (byt s k) with
        | true =>
          rw [hd] at DIG
          have hn : isNm (byt s k) = true := by simp [isNm, hd]
          go_wp2_with fail
          go_quiet ((first | (go_at_call 106; exact Calls.quiet_of_same (LET _)) | (go_at_call 107; exact Calls.quiet_of_same (DIG _))))
          go_wp2_with fail
          refine ⟨⟨k + 1, ?_, (nmE_at h1 hn).symm.trans hb, Kept1.set (hK.drewN _) _ _⟩, ?_⟩
          · have := (hR.drewN nq).step (k := k + 1) (by omega)
            simpa using this
          · have hn := ((hR.drewN nq).step (k := k + 1) (by omega)).c1
            have hn' : ((wr.drewN nq).setCell ⟨r, 1, none⟩ (.int .i64 ((k : Int) + 1))).cell? ⟨r, 1, none⟩ = some (.int .i64 ((k : Int) + 1)) := by simpa using hn
            rw [c1, hn']
            simp only [intOf]
            omega
        | false =>
          rw [hd] at DIG
          have hn : isNm (byt s k) = false := by simp [isNm, hl, hd]
          go_wp2_with fail
          go_quiet ((first | (go_at_call 106; exact Calls.quiet_of_same (LET _)) | (go_at_call 107; exact Calls.quiet_of_same (DIG _))))
          have hE : nmE s p = k := hb.symm.trans (nmE_end (fun x => by have := x.2; rw [hn] at this; cases this))
          have hpk : p ≤ k := hE ▸ nmE_ge s p
          have FAIL := fun m => fail_in (wr.drewN m) r s k av e a (hR.drewN m) 2 p
          have hKn : ∀ m, Kept1 r w (wr.drewN m) := fun m => Kept.drewN hK m
          have hRn := hR.drewN
          clear hb hK
          by_cases hA : p = k
          · have hbad : badNm s p = true := by rw [badNm, hE]; simp [hA]
            subst hA
            go_wp2_with (go_at_call 31; refine (FAIL _).mono ?_; rintro e w3 ⟨rfl, R3, K3⟩; have c03 := R3.c0; have c13 := R3.c1)
            go_quiet (fail)
            go_wp2_with fail
            go_ret2
            try rw [hE]
            exact ⟨rfl, Kept.drewN (Kept.trans (hKn _) K3) _, by first | exact R3.drewN _ | (rw [if_pos hbad]; exact R3.drewN _)⟩
          · have dA : ((k : Int) == (p : Int)) = false := beq_eq_false_iff_ne.2 (by omega)
            have hps : p < s.size := by omega
            have DIG2 : ∀ m, Calls Tryz.prog 107 #[.int .u8 ((s[p]).toNat : Nat)] (wr.drewN m) fun e w' => e = .returned (.bool (isDig (byt s p))) ∧ w' = wr.drewN m := fun m => (rdigit_any _ _).mono fun _ _ x => ⟨by rw [x.1, byt_lt hps], x.2.symm⟩
            cases hD : isDig (byt s p) with
            | true =>
              rw [hD] at DIG2
              have hbad : badNm s p = true := by simp [badNm, hD]
              go_wp2_with (first | (go_at_call 107; refine (DIG2 _).mono ?_; rintro e w2 ⟨rfl, rfl⟩) | (go_at_call 31; refine (FAIL _).mono ?_; rintro e w3 ⟨rfl, R3, K3⟩; have c03 := R3.c0; have c13 := R3.c1))
              go_quiet (fail)
              go_wp2_with fail
              go_ret2
              try rw [hE]
              exact ⟨rfl, Kept.drewN (Kept.trans (hKn _) K3) _, by first | exact R3.drewN _ | (rw [if_pos hbad]; exact R3.drewN _)⟩
            | false =>
              rw [hD] at DIG2
              by_cases hC : 6 < k - p
              · have dC : decide ((6 : Int) < (k : Int) - (p : Int)) = true := decide_eq_true (by omega)
                have hbad : badNm s p = true := by rw [badNm, hE]; simp [hC]
                go_wp2_with (first | (go_at_call 107; refine (DIG2 _).mono ?_; rintro e w2 ⟨rfl, rfl⟩) | (go_at_call 31; refine (FAIL _).mono ?_; rintro e w3 ⟨rfl, R3, K3⟩; have c03 := R3.c0; have c13 := R3.c1))
                go_quiet (fail)
                go_wp2_with fail
                go_ret2
                try rw [hE]
                exact ⟨rfl, Kept.drewN (Kept.trans (hKn _) K3) _, by first | exact R3.drewN _ | (rw [if_pos hbad]; exact R3.drewN _)⟩
              · have dC : decide ((6 : Int) < (k : Int) - (p : Int)) = false := decide_eq_false (by omega)
                have hbad : ¬ badNm s p = true := by rw [badNm, hE]; simp [hD]; omega
                go_wp2_with (first | (go_at_call 107; refine (DIG2 _).mono ?_; rintro e w2 ⟨rfl, rfl⟩))
                go_quiet (fail)
                go_wp2_with fail
                go_ret2
                try rw [hE]
                exact ⟨rfl, hKn _, by first | exact hRn _ | (rw [if_neg hbad]; exact hRn _)⟩
    · have d1 : decide ((k : Int) < s.size) = false := decide_eq_false (by omega)
      go_wp2_with fail
      go_quiet (fail)
      have hE : nmE s p = k := hb.symm.trans (nmE_end (fun x => h1 x.1))
      have hpk : p ≤ k := hE ▸ nmE_ge s p
      have FAIL := fun m => fail_in (wr.drewN m) r s k av e a (hR.drewN m) 2 p
      have hKn : ∀ m, Kept1 r w (wr.drewN m) := fun m => Kept.drewN hK m
      have hRn := hR.drewN
      clear hb hK
      by_cases hA : p = k
      · have hbad : badNm s p = true := by rw [badNm, hE]; simp [hA]
        subst hA
        go_wp2_with (go_at_call 31; refine (FAIL _).mono ?_; rintro e w3 ⟨rfl, R3, K3⟩; have c03 := R3.c0; have c13 := R3.c1)
        go_quiet (fail)
        go_wp2_with fail
        go_ret2
        try rw [hE]
        exact ⟨rfl, Kept.drewN (Kept.trans (hKn _) K3) _, by first | exact R3.drewN _ | (rw [if_pos hbad]; exact R3.drewN _)⟩
      · have dA : ((k : Int) == (p : Int)) = false := beq_eq_false_iff_ne.2 (by omega)
        have hps : p < s.size := by omega
        have DIG2 : ∀ m, Calls Tryz.prog 107 #[.int .u8 ((s[p]).toNat : Nat)] (wr.drewN m) fun e w' => e = .returned (.bool (isDig (byt s p))) ∧ w' = wr.drewN m := fun m => (rdigit_any _ _).mono fun _ _ x => ⟨by rw [x.1, byt_lt hps], x.2.symm⟩
        cases hD : isDig (byt s p) with
        | true =>
          rw [hD] at DIG2
          have hbad : badNm s p = true := by simp [badNm, hD]
          go_wp2_with (first | (go_at_call 107; refine (DIG2 _).mono ?_; rintro e w2 ⟨rfl, rfl⟩) | (go_at_call 31; refine (FAIL _).mono ?_; rintro e w3 ⟨rfl, R3, K3⟩; have c03 := R3.c0; have c13 := R3.c1))
          go_quiet (fail)
          go_wp2_with fail
          go_ret2
          try rw [hE]
          exact ⟨rfl, Kept.drewN (Kept.trans (hKn _) K3) _, by first | exact R3.drewN _ | (rw [if_pos hbad]; exact R3.drewN _)⟩
        | false =>
          rw [hD] at DIG2
          by_cases hC : 6 < k - p
          · have dC : decide ((6 : Int) < (k : Int) - (p : Int)) = true := decide_eq_true (by omega)
            have hbad : badNm s p = true := by rw [badNm, hE]; simp [hC]
            go_wp2_with (first | (go_at_call 107; refine (DIG2 _).mono ?_; rintro e w2 ⟨rfl, rfl⟩) | (go_at_call 31; refine (FAIL _).mono ?_; rintro e w3 ⟨rfl, R3, K3⟩; have c03 := R3.c0; have c13 := R3.c1))
            go_quiet (fail)
            go_wp2_with fail
            go_ret2
            try rw [hE]
            exact ⟨rfl, Kept.drewN (Kept.trans (hKn _) K3) _, by first | exact R3.drewN _ | (rw [if_pos hbad]; exact R3.drewN _)⟩
          · have dC : decide ((6 : Int) < (k : Int) - (p : Int)) = false := decide_eq_false (by omega)
            have hbad : ¬ badNm s p = true := by rw [badNm, hE]; simp [hD]; omega
            go_wp2_with (first | (go_at_call 107; refine (DIG2 _).mono ?_; rintro e w2 ⟨rfl, rfl⟩))
            go_quiet (fail)
            go_wp2_with fail
            go_ret2
            try rw [hE]
            exact ⟨rfl, hKn _, by first | exact hRn _ | (rw [if_neg hbad]; exact hRn _)⟩

end Go.Proofs.YtlehlgipbhfioaaGreat
