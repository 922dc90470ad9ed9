/- Package term: name. -/
import Derived.Test.YtlehlgipbhfioaaGreatP00
import Derived.Laws.Closers25b
namespace Go.Proofs.YtlehlgipbhfioaaGreat
open Go.RowKit

def isNm (c : Nat) : Bool := isLet c || isDig c
/-- Where the letters and digits from i on end. -/
def nmE (s : ByteArray) (i : Nat) : Nat := if h : i < s.size ∧ isNm (byt s i) = true then nmE s (i + 1) else i
termination_by s.size - i
decreasing_by omega
theorem nmE_at {s : ByteArray} {i : Nat} (h : i < s.size) (hb : isNm (byt s i) = true) : nmE s i = nmE s (i + 1) := by rw [nmE]; simp [h, hb]
theorem nmE_end {s : ByteArray} {i : Nat} (h : ¬ (i < s.size ∧ isNm (byt s i) = true)) : nmE s i = i := by rw [nmE]; simp [h]
theorem nmE_ge (s : ByteArray) (i : Nat) : i ≤ nmE s i := by
  induction i using nmE.induct s with
  | case1 i h ih => rw [nmE_at h.1 h.2]; omega
  | case2 i h => rw [nmE_end h]; omega
theorem nmE_le {s : ByteArray} {i : Nat} (hi : i ≤ s.size) : nmE s i ≤ s.size := by
  induction i using nmE.induct s with
  | case1 i h ih => rw [nmE_at h.1 h.2]; exact ih (by omega)
  | case2 i h => rw [nmE_end h]; exact hi

/-- No name stands at i. -/
def badNm (s : ByteArray) (i : Nat) : Bool := decide (nmE s i = i) || decide (6 < nmE s i - i) || isDig (byt s i)

theorem ext_size {s : ByteArray} {i k : Nat} (h : i ≤ k) (hk : k ≤ s.size) : (s.extract i k).size = k - i := by simp [ByteArray.size_extract]; omega
theorem ext0 {s : ByteArray} {i k : Nat} (h : i < k) (hk : k ≤ s.size) (hz : 0 < (s.extract i k).size) : (s.extract i k)[0] = s[i] := by simp [ByteArray.getElem_extract]
theorem ext_nil {s : ByteArray} {i k : Nat} (h : i ≤ k) (hk : k ≤ s.size) : (s.extract i k).toList = [] ↔ i = k := by
  rw [toList_nil_iff_emptyBytes, ByteArray.extract_eq_empty_iff]; omega

def NamePost (w : World) (r : Nat) (bp : Value) (s : ByteArray) (i : Nat) (e : Ending) (w' : World) : Prop :=
  Kept1 r w w' ∧ ((badNm s i = true ∧ e = .panicked [{ v := refusalV 2 i, recovered := false }] ∧ ∃ k, Rd w' r bp s k) ∨
    (badNm s i = false ∧ e = .returned (.string (s.extract i (nmE s i))) ∧ Rd w' r bp s (bl s (nmE s i))))

set_option maxHeartbeats 2000000 in
theorem name_in (w : World) (r : Nat) (bp : Value) (s : ByteArray) (i : Nat) (h : Rd w r bp s i) :
    Calls Tryz.prog 101 #[.pointer (some ⟨r, 0, none⟩)] w (NamePost w r bp s i) := by
  have hs := h.small
  have c2 := h.c2
  go_enter Tryz.func101, Tryz.ntmps101
  go_wp2
  go_loopw [] (fun W => ∃ k : Nat, Rd W r bp s k ∧ Hid (nmE s k = nmE s i) ∧ Hid (Kept1 r w W)) (fun W => s.size - (match W.cell? ⟨r, 2, none⟩ with | some v => (intOf v).toNat | none => 0))
  case atStart => exact ⟨i, h, rfl, Kept.refl _ w⟩
  case round =>
    obtain ⟨k, hR, hb, hK⟩ := hrel
    have c1 := hR.c1
    clear c2
    have c2 := hR.c2
    have f2 := hR.row.frozen 2
    have hle := hR.le
    by_cases h1 : k < s.size
    · have d1 : decide ((k : Int) < s.size) = true := decide_eq_true (by omega)
      have LET : ∀ m, Calls Tryz.prog 149 #[.int .u8 ((s[k]).toNat : Nat)] (wr.drewN m) fun e w' => e = .returned (.bool (isLet (byt s k))) ∧ w' = wr.drewN m := fun m => (letter_any _ _).mono fun _ _ x => ⟨by rw [x.1, byt_lt h1], x.2.symm⟩
      have DIG : ∀ m, Calls Tryz.prog 150 #[.int .u8 ((s[k]).toNat : Nat)] (wr.drewN m) fun e w' => e = .returned (.bool (isDig (byt s k))) ∧ w' = wr.drewN m := fun m => (digit_any _ _).mono fun _ _ x => ⟨by rw [x.1, byt_lt h1], x.2.symm⟩
      cases hl : isLet (byt s k) with
      | true =>
        rw [hl] at LET
        have hn : isNm (byt s k) = true := by simp [isNm, hl]
        go_wp2_with fail
        go_quiet ((go_at_call 149; exact Calls.quiet_of_same (LET _)))
        go_wp2_with fail
        refine ⟨⟨k + 1, ?_, (nmE_at h1 hn).symm.trans hb, Kept1.set (hK.drewN _) _ _⟩, ?_⟩
        · have := (hR.drewN nq).step (k := k + 1) (by omega)
          simpa using this
        · have hn := ((hR.drewN nq).step (k := k + 1) (by omega)).c2
          have hn' : ((wr.drewN nq).setCell ⟨r, 2, none⟩ (.int .i64 ((k : Int) + 1))).cell? ⟨r, 2, none⟩ = some (.int .i64 ((k : Int) + 1)) := by simpa using hn
          rw [c2, hn']
          simp only [intOf]
          omega
      | false =>
        rw [hl] at LET
        cases hd : isDig (byt s k) with
        | true =>
          rw [hd] at DIG
          have hn : isNm (byt s k) = true := by simp [isNm, hd]
          go_wp2_with fail
          go_quiet ((first | (go_at_call 149; exact Calls.quiet_of_same (LET _)) | (go_at_call 150; exact Calls.quiet_of_same (DIG _))))
          go_wp2_with fail
          refine ⟨⟨k + 1, ?_, (nmE_at h1 hn).symm.trans hb, Kept1.set (hK.drewN _) _ _⟩, ?_⟩
          · have := (hR.drewN nq).step (k := k + 1) (by omega)
            simpa using this
          · have hn := ((hR.drewN nq).step (k := k + 1) (by omega)).c2
            have hn' : ((wr.drewN nq).setCell ⟨r, 2, none⟩ (.int .i64 ((k : Int) + 1))).cell? ⟨r, 2, none⟩ = some (.int .i64 ((k : Int) + 1)) := by simpa using hn
            rw [c2, hn']
            simp only [intOf]
            omega
        | false =>
          rw [hd] at DIG
          have hn : isNm (byt s k) = false := by simp [isNm, hl, hd]
          go_wp2_with fail
          go_quiet ((first | (go_at_call 149; exact Calls.quiet_of_same (LET _)) | (go_at_call 150; exact Calls.quiet_of_same (DIG _))))
          go_wp2_with fail
          have hE : nmE s i = k := hb.symm.trans (nmE_end (fun x => by have := x.2; rw [hn] at this; cases this))
          clear LET DIG
          have hik : i ≤ k := hE ▸ nmE_ge s i
          have c1' := (hR.drewN nq).c1
          have c2' := (hR.drewN nq).c2
          have hKn : ∀ m, Kept1 r w (wr.drewN m) := fun m => Kept.drewN hK m
          have hRn := hR.drewN
          have hz := ext_size hik hR.le
          have hnil := ext_nil hik hR.le
          clear hb hK hR
          by_cases hA : i = k
          · subst hA
            have hbad : badNm s i = true := by rw [badNm, hE]; simp
            have hn0 := hnil.2 rfl
            clear hnil
            go_quiet (fail)
            go_wp2_with (go_at_call 60; refine (refuse_any _ _ _).mono ?_; rintro e w2 ⟨rfl, rfl⟩)
            exact ⟨rfl, hKn _, Or.inl ⟨hbad, rfl, _, hRn _⟩⟩
          · have hn0 : ¬ (s.extract i k).toList = [] := fun x => hA (hnil.1 x)
            clear hnil
            have hz0 : 0 < (s.extract i k).size := by omega
            have hx0 : ∀ h : 0 < (s.extract i k).size, ((s.extract i k)[0]'h).toNat = byt s i := fun h => by rw [ext0 (by omega) hle h]; exact byt_lt (by omega)
            by_cases hB : 6 < k - i
            · have hbad : badNm s i = true := by simp [badNm, hE, hB]
              have hB' : decide ((6 : Int) < (s.extract i k).size) = true := decide_eq_true (by omega)
              have hB2 : (6 : Int) < (s.extract i k).size := by omega
              go_quiet (fail)
              go_wp2_with (go_at_call 60; refine (refuse_any _ _ _).mono ?_; rintro e w2 ⟨rfl, rfl⟩)
              exact ⟨rfl, hKn _, Or.inl ⟨hbad, rfl, _, hRn _⟩⟩
            · have hB2 : ¬ (6 : Int) < (s.extract i k).size := by omega
              cases hC : isDig (byt s i) with
              | true =>
                have hbad : badNm s i = true := by simp [badNm, hC]
                go_quiet (fail)
                have hNm : ∃ N, s.extract i k = N := ⟨_, rfl⟩
                obtain ⟨N, hNm⟩ := hNm
                rw [hNm] at hz hn0 hz0 hx0 hB2 ⊢
                go_wp2_with (first | (go_at_call 150; refine (digit_any _ _).mono ?_; rintro e w2 ⟨he, rfl⟩; rw [hC] at he; subst he) | (go_at_call 60; refine (refuse_any _ _ _).mono ?_; rintro e w2 ⟨rfl, rfl⟩))
                exact ⟨rfl, hKn _, Or.inl ⟨hbad, rfl, _, hRn _⟩⟩
              | false =>
                have hbad : badNm s i = false := by simp [badNm, hE, hC]; omega
                have hem : (s.extract i k).toList.isEmpty = false := by cases hq : (s.extract i k).toList with | nil => exact absurd hq hn0 | cons a l => rfl
                have hB3 : ¬ (6 : Int) < ((k - i : Nat) : Int) := by omega
                go_quiet (fail)
                have hNm : ∃ N, s.extract i k = N := ⟨_, rfl⟩
                obtain ⟨N, hNm⟩ := hNm
                rw [hNm] at hz hn0 hz0 hx0 hB2 hem ⊢
                go_wp2_with (first | (go_at_call 150; refine (digit_any _ _).mono ?_; rintro e w2 ⟨he, rfl⟩; rw [hC] at he; subst he) | (go_at_call 58; refine (blanks_in _ _ _ _ _ (hRn _)).mono ?_; rintro e w2 ⟨rfl, hR2, hK2⟩))
                go_ret
                refine ⟨Kept.trans (hKn _) hK2, Or.inr ⟨hbad, ?_, by rw [hE]; exact hR2⟩⟩
                rw [hE, hNm]; rfl
    · have d1 : decide ((k : Int) < s.size) = false := decide_eq_false (by omega)
      go_wp2_with fail
      go_quiet (fail)
      go_wp2_with fail
      have hE : nmE s i = k := hb.symm.trans (nmE_end (fun x => h1 x.1))
      have hik : i ≤ k := hE ▸ nmE_ge s i
      have c1' := (hR.drewN nq).c1
      have c2' := (hR.drewN nq).c2
      have hKn : ∀ m, Kept1 r w (wr.drewN m) := fun m => Kept.drewN hK m
      have hRn := hR.drewN
      have hz := ext_size hik hR.le
      have hnil := ext_nil hik hR.le
      clear hb hK hR
      by_cases hA : i = k
      · subst hA
        have hbad : badNm s i = true := by rw [badNm, hE]; simp
        have hn0 := hnil.2 rfl
        clear hnil
        go_quiet (fail)
        go_wp2_with (go_at_call 60; refine (refuse_any _ _ _).mono ?_; rintro e w2 ⟨rfl, rfl⟩)
        exact ⟨rfl, hKn _, Or.inl ⟨hbad, rfl, _, hRn _⟩⟩
      · have hn0 : ¬ (s.extract i k).toList = [] := fun x => hA (hnil.1 x)
        clear hnil
        have hz0 : 0 < (s.extract i k).size := by omega
        have hx0 : ∀ h : 0 < (s.extract i k).size, ((s.extract i k)[0]'h).toNat = byt s i := fun h => by rw [ext0 (by omega) hle h]; exact byt_lt (by omega)
        by_cases hB : 6 < k - i
        · have hbad : badNm s i = true := by simp [badNm, hE, hB]
          have hB' : decide ((6 : Int) < (s.extract i k).size) = true := decide_eq_true (by omega)
          have hB2 : (6 : Int) < (s.extract i k).size := by omega
          go_quiet (fail)
          go_wp2_with (go_at_call 60; refine (refuse_any _ _ _).mono ?_; rintro e w2 ⟨rfl, rfl⟩)
          exact ⟨rfl, hKn _, Or.inl ⟨hbad, rfl, _, hRn _⟩⟩
        · have hB2 : ¬ (6 : Int) < (s.extract i k).size := by omega
          cases hC : isDig (byt s i) with
          | true =>
            have hbad : badNm s i = true := by simp [badNm, hC]
            go_quiet (fail)
            have hNm : ∃ N, s.extract i k = N := ⟨_, rfl⟩
            obtain ⟨N, hNm⟩ := hNm
            rw [hNm] at hz hn0 hz0 hx0 hB2 ⊢
            go_wp2_with (first | (go_at_call 150; refine (digit_any _ _).mono ?_; rintro e w2 ⟨he, rfl⟩; rw [hC] at he; subst he) | (go_at_call 60; refine (refuse_any _ _ _).mono ?_; rintro e w2 ⟨rfl, rfl⟩))
            exact ⟨rfl, hKn _, Or.inl ⟨hbad, rfl, _, hRn _⟩⟩
          | false =>
            have hbad : badNm s i = false := by simp [badNm, hE, hC]; omega
            have hem : (s.extract i k).toList.isEmpty = false := by cases hq : (s.extract i k).toList with | nil => exact absurd hq hn0 | cons a l => rfl
            have hB3 : ¬ (6 : Int) < ((k - i : Nat) : Int) := by omega
            go_quiet (fail)
            have hNm : ∃ N, s.extract i k = N := ⟨_, rfl⟩
            obtain ⟨N, hNm⟩ := hNm
            rw [hNm] at hz hn0 hz0 hx0 hB2 hem ⊢
            go_wp2_with (first | (go_at_call 150; refine (digit_any _ _).mono ?_; rintro e w2 ⟨he, rfl⟩; rw [hC] at he; subst he) | (go_at_call 58; refine (blanks_in _ _ _ _ _ (hRn _)).mono ?_; rintro e w2 ⟨rfl, hR2, hK2⟩))
            go_ret
            refine ⟨Kept.trans (hKn _) hK2, Or.inr ⟨hbad, ?_, by rw [hE]; exact hR2⟩⟩
            rw [hE, hNm]; rfl

end Go.Proofs.YtlehlgipbhfioaaGreat
