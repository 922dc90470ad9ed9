/- The document's reader within its parser (made of RefA and RefB). The document's reader within its parser (made of RefF). The document's Forms in memory: what LoE says of the program's. -/
import Derived.Test.YtinphcnknionmaaP18
import Derived.Test.YtinphcnknionmaaP13
import Derived.Test.YtinphcnknionmaaP16
namespace Go.Proofs.Ytinphcnknionmaa.Q5
open Go.RowKit
variable {dd : Int} {aw : Value} {lw : List Tm} {vw : List Value}

def rr6 (dd : Int) (s : ByteArray) (i : Nat) (av : Value) (e a : Nat) (j : Nat) : Value := if j = 5 then .int .i64 dd else rrC s i av e a j

/-- The document's reader at block r. -/
structure Rr (dd : Int) (w : World) (r : Nat) (s : ByteArray) (i : Nat) (av : Value) (e a : Nat) : Prop where
  row : w.rowIs r 165 6 (rr6 dd s i av e a)
  le : i ≤ s.size
  small : s.size ≤ 400

theorem Rr.c0 {w : World} {r : Nat} {s : ByteArray} {i : Nat} {av : Value} {e a : Nat} (h : Rr dd w r s i av e a) : w.cell? ⟨r, 0, none⟩ = some (.string s) := h.row.cell (by omega)

theorem Rr.c1 {w : World} {r : Nat} {s : ByteArray} {i : Nat} {av : Value} {e a : Nat} (h : Rr dd w r s i av e a) : w.cell? ⟨r, 1, none⟩ = some (.int .i64 (i : Int)) := h.row.cell (i := 1) (by omega)

theorem Rr.c2 {w : World} {r : Nat} {s : ByteArray} {i : Nat} {av : Value} {e a : Nat} (h : Rr dd w r s i av e a) : w.cell? ⟨r, 2, none⟩ = some av := h.row.cell (i := 2) (by omega)

theorem Rr.c3 {w : World} {r : Nat} {s : ByteArray} {i : Nat} {av : Value} {e a : Nat} (h : Rr dd w r s i av e a) : w.cell? ⟨r, 3, none⟩ = some (.int .i64 (e : Int)) := h.row.cell (i := 3) (by omega)

theorem Rr.c4 {w : World} {r : Nat} {s : ByteArray} {i : Nat} {av : Value} {e a : Nat} (h : Rr dd w r s i av e a) : w.cell? ⟨r, 4, none⟩ = some (.int .i64 (a : Int)) := h.row.cell (i := 4) (by omega)

theorem Rr.drewN {w : World} {r : Nat} {s : ByteArray} {i : Nat} {av : Value} {e a : Nat} (h : Rr dd w r s i av e a) (m : Nat) : Rr dd (w.drewN m) r s i av e a := ⟨h.row, h.le, h.small⟩

theorem Rr.of_block {w w' : World} {r : Nat} {s : ByteArray} {i : Nat} {av : Value} {e a : Nat} (h : Rr dd w r s i av e a) (hb : w'.heap[r]? = w.heap[r]?) : Rr dd w' r s i av e a := ⟨h.row.of_block hb, h.le, h.small⟩

theorem Rr.step {w : World} {r : Nat} {s : ByteArray} {i : Nat} {av : Value} {e a : Nat} (h : Rr dd w r s i av e a) {k : Nat} (hk : k ≤ s.size) : Rr dd (w.setCell ⟨r, 1, none⟩ (.int .i64 (k : Int))) r s k av e a :=
  ⟨(h.row.set 1 _).congr (fun j hj => by
    rcases (by omega : j = 0 ∨ j = 1 ∨ j = 2 ∨ j = 3 ∨ j = 4 ∨ j = 5) with rfl | rfl | rfl | rfl | rfl | rfl <;> simp [rr6, rrC]), hk, h.small⟩

theorem Rr.err {w : World} {r : Nat} {s : ByteArray} {i : Nat} {av : Value} {e a : Nat} (h : Rr dd w r s i av e a) (c q : Nat) : Rr dd ((w.setCell ⟨r, 3, none⟩ (.int .i64 (c : Int))).setCell ⟨r, 4, none⟩ (.int .i64 (q : Int))) r s i av c q :=
  ⟨((h.row.set 3 _).set 4 _).congr (fun j hj => by
    rcases (by omega : j = 0 ∨ j = 1 ∨ j = 2 ∨ j = 3 ∨ j = 4 ∨ j = 5) with rfl | rfl | rfl | rfl | rfl | rfl <;> simp [rr6, rrC]), h.le, h.small⟩

theorem Rr.list {w : World} {r : Nat} {s : ByteArray} {i : Nat} {av : Value} {e a : Nat} (h : Rr dd w r s i av e a) (v : Value) : Rr dd (w.setCell ⟨r, 2, none⟩ v) r s i v e a :=
  ⟨(h.row.set 2 _).congr (fun j hj => by
    rcases (by omega : j = 0 ∨ j = 1 ∨ j = 2 ∨ j = 3 ∨ j = 4 ∨ j = 5) with rfl | rfl | rfl | rfl | rfl | rfl <;> simp [rr6, rrC]), h.le, h.small⟩

set_option maxHeartbeats 400000 in
theorem fail_in (w : World) (r : Nat) (s : ByteArray) (i : Nat) (av : Value) (e a : Nat) (h : Rr dd w r s i av e a) (c q : Nat) :
    Calls Try.prog 70 #[.pointer (some ⟨r, 0, none⟩), .int .i64 (c : Int), .int .i64 (q : Int)] w fun x w' => x = .returned (.tuple #[]) ∧ Rr dd w' r s i av (failE e c) (failA e a q) ∧ Kept1 r w w' := by
  have c3 := h.c3
  have c4 := h.c4
  have f3 := h.row.frozen 3
  have f4 := h.row.frozen 4
  by_cases he : e = 0
  · subst he
    have e1 : failE 0 c = c := rfl
    have e2 : failA 0 a q = q := rfl
    go_enter Try.func70, Try.ntmps70
    go_wp2
    go_end0
    exact ⟨rfl, by rw [e1, e2]; exact h.err c q, Kept1.set (Kept1.set (Kept.refl _ w) _ _) _ _⟩
  · have d : ((e : Int) == 0) = false := beq_eq_false_iff_ne.2 (by omega)
    have e1 : failE e c = e := if_neg he
    have e2 : failA e a q = a := if_neg he
    go_enter Try.func70, Try.ntmps70
    go_wp2
    go_end0
    exact ⟨rfl, by rw [e1, e2]; exact h, Kept.refl _ w⟩

set_option maxHeartbeats 400000 in
theorem rblanks_in (w : World) (r : Nat) (s : ByteArray) (i : Nat) (av : Value) (e a : Nat) (h : Rr dd w r s i av e a) :
    Calls Try.prog 69 #[.pointer (some ⟨r, 0, none⟩)] w fun x w' => x = .returned (.tuple #[]) ∧ Rr dd w' r s (bl s i) av e a ∧ Kept1 r w w' := by
  have hs := h.small
  go_enter Try.func69, Try.ntmps69
  go_wp2
  go_loopw [] (fun W => ∃ k : Nat, Rr dd W r s k av e a ∧ Hid (bl s k = bl s i) ∧ Hid (Kept1 r w W)) (fun W => s.size - (match W.cell? ⟨r, 1, none⟩ with | some v => (intOf v).toNat | none => 0))
  case atStart => exact ⟨i, h, rfl, Kept.refl _ w⟩
  case round =>
    obtain ⟨k, hR, hb, hK⟩ := hrel
    have c1 := hR.c0
    have c2 := hR.c1
    have f2 := hR.row.frozen 1
    have hle := hR.le
    by_cases h1 : k < s.size
    · by_cases h2 : byt s k = 32
      · have d1 : decide ((k : Int) < s.size) = true := decide_eq_true (by omega)
        have e2 : (s[k]).toNat = 32 := (byt_lt h1).trans h2
        go_wp2_with fail
        go_quiet (fail)
        go_wp2_with fail
        refine ⟨⟨k + 1, ?_, (bl_at h1 h2).symm.trans hb, Kept1.set (hK.drewN _) _ _⟩, ?_⟩
        · have := (hR.drewN nq).step (k := k + 1) (by omega)
          simpa using this
        · have hn := ((hR.drewN nq).step (k := k + 1) (by omega)).c1
          have hn' : ((wr.drewN nq).setCell ⟨r, 1, none⟩ (.int .i64 ((k : Int) + 1))).cell? ⟨r, 1, none⟩ = some (.int .i64 ((k : Int) + 1)) := by simpa using hn
          rw [c2, hn']
          simp only [intOf]
          omega
      · have d1 : decide ((k : Int) < s.size) = true := decide_eq_true (by omega)
        have e2 : ¬ (s[k]).toNat = 32 := fun e => h2 ((byt_lt h1).symm.trans e)
        go_wp2_with fail
        go_quiet (fail)
        go_wp2_with fail
        go_end0
        have e : bl s i = k := hb.symm.trans (bl_end (fun x => h2 x.2))
        exact ⟨rfl, e ▸ hR.drewN nq, Kept.drewN hK nq⟩
    · have d1 : decide ((k : Int) < s.size) = false := decide_eq_false (by omega)
      go_wp2_with fail
      go_quiet (fail)
      go_wp2_with fail
      go_end0
      have e : bl s i = k := hb.symm.trans (bl_end (fun x => h1 x.1))
      exact ⟨rfl, e ▸ hR.drewN nq, Kept.drewN hK nq⟩

set_option maxHeartbeats 800000 in
theorem is_in (w : World) (r : Nat) (s : ByteArray) (i : Nat) (av : Value) (e a : Nat) (h : Rr dd w r s i av e a) (c : Nat) :
    Calls Try.prog 147 #[.pointer (some ⟨r, 0, none⟩), .int .u8 (c : Int)] w fun x w' => x = .returned (.bool (isB s i e c)) ∧ Rr dd w' r s (bl s i) av e a ∧ Kept1 r w w' := by
  have hs := h.small
  have hle := bl_le h.le
  have BL := rblanks_in w r s i av e a h
  by_cases he : e = 0
  · subst he
    by_cases h1 : bl s i < s.size
    · have d1 : decide ((bl s i : Int) < s.size) = true := decide_eq_true (by omega)
      by_cases h2 : byt s (bl s i) = c
      · have e2 : (s[bl s i]).toNat = c := (byt_lt h1).trans h2
        have hB : isB s i 0 c = true := by simp [isB, stands_true h1 h2]
        go_enter Try.func147, Try.ntmps147
        go_wp2_with (go_at_call 69; refine BL.mono ?_; rintro e w2 ⟨rfl, R2, K2⟩; have c0 := R2.c0; have c1 := R2.c1; have c3 := R2.c3)
        go_quiet (fail)
        go_wp2_with fail
        go_ret
        exact ⟨ret_bool hB.symm, R2.drewN nq, Kept.drewN K2 nq⟩
      · have e2 : ¬ (s[bl s i]).toNat = c := fun e => h2 ((byt_lt h1).symm.trans e)
        have e3 : (((s[bl s i]).toNat : Int) == (c : Int)) = false := beq_eq_false_iff_ne.2 (by omega)
        have hB : isB s i 0 c = false := by simp [isB, stands_ne h2]
        go_enter Try.func147, Try.ntmps147
        go_wp2_with (go_at_call 69; refine BL.mono ?_; rintro e w2 ⟨rfl, R2, K2⟩; have c0 := R2.c0; have c1 := R2.c1; have c3 := R2.c3)
        go_quiet (fail)
        go_wp2_with fail
        go_ret
        exact ⟨ret_bool hB.symm, R2.drewN nq, Kept.drewN K2 nq⟩
    · have d1 : decide ((bl s i : Int) < s.size) = false := decide_eq_false (by omega)
      have hB : isB s i 0 c = false := by simp [isB, stands_end h1]
      go_enter Try.func147, Try.ntmps147
      go_wp2_with (go_at_call 69; refine BL.mono ?_; rintro e w2 ⟨rfl, R2, K2⟩; have c0 := R2.c0; have c1 := R2.c1; have c3 := R2.c3)
      go_quiet (fail)
      go_wp2_with fail
      go_ret
      exact ⟨ret_bool hB.symm, R2.drewN nq, Kept.drewN K2 nq⟩
  · have d : ((e : Int) == 0) = false := beq_eq_false_iff_ne.2 (by omega)
    have hB : isB s i e c = false := by simp [isB, he]
    go_enter Try.func147, Try.ntmps147
    go_wp2_with (go_at_call 69; refine BL.mono ?_; rintro e w2 ⟨rfl, R2, K2⟩; have c0 := R2.c0; have c1 := R2.c1; have c3 := R2.c3)
    go_quiet (fail)
    go_wp2_with fail
    go_ret
    exact ⟨ret_bool hB.symm, R2.drewN nq, Kept.drewN K2 nq⟩

set_option maxHeartbeats 400000 in
theorem rhas1_in (w : World) (r : Nat) (s : ByteArray) (i : Nat) (av : Value) (e a : Nat) (h : Rr dd w r s i av e a) (c : Nat) :
    Calls Try.prog 114 #[.pointer (some ⟨r, 0, none⟩), .int .u8 (c : Int)] w fun x w' => x = .returned (.bool (isB s i e c)) ∧ Rr dd w' r s (hasI s i e c) av e a ∧ Kept1 r w w' := by
  have hs := h.small
  have IS := is_in w r s i av e a h c
  cases hB : isB s i e c with
  | true =>
    rw [hB] at IS
    have hlt := isB_lt hB
    have hI : hasI s i e c = bl s i + 1 := by simp [hasI, hB]
    go_enter Try.func114, Try.ntmps114
    go_wp2_with (go_at_call 147; refine IS.mono ?_; rintro e w2 ⟨rfl, R2, K2⟩; have c1 := R2.c1; have f1 := R2.row.frozen 1)
    go_ret
    have := R2.step (k := bl s i + 1) (by omega)
    refine ⟨rfl, by rw [hI]; simpa using this, Kept1.set K2 _ _⟩
  | false =>
    rw [hB] at IS
    have hI : hasI s i e c = bl s i := by simp [hasI, hB]
    go_enter Try.func114, Try.ntmps114
    go_wp2_with (go_at_call 147; refine IS.mono ?_; rintro e w2 ⟨rfl, R2, K2⟩)
    go_ret
    exact ⟨rfl, by rw [hI]; exact R2, K2⟩

def NmPost (dd : Int) (w : World) (r : Nat) (av : Value) (s : ByteArray) (i e a : Nat) (x : Ending) (w' : World) : Prop :=
  x = .returned (.tuple #[.string (s.extract (bl s i) (nmE s (bl s i))), .int .i64 (bl s i : Int)]) ∧ Kept1 r w w' ∧
    (if badNm s (bl s i) = true then Rr dd w' r s (nmE s (bl s i)) av (failE e 2) (failA e a (bl s i)) else Rr dd w' r s (nmE s (bl s i)) av e a)

set_option maxHeartbeats 4000000 in
theorem rname_in (w : World) (r : Nat) (s : ByteArray) (i : Nat) (av : Value) (e a : Nat) (h : Rr dd w r s i av e a) :
    Calls Try.prog 113 #[.pointer (some ⟨r, 0, none⟩)] w (NmPost dd w r av s i e a) := by
  have hs := h.small
  have BL := rblanks_in w r s i av e a h
  have hple := bl_le h.le
  unfold NmPost
  generalize hpp : bl s i = p at *
  go_enter Try.func113, Try.ntmps113
  go_wp2_with (go_at_call 69; refine BL.mono ?_; rintro e w2 ⟨rfl, R2, K2⟩; have c1 := R2.c1)
  go_loopw [] (fun W => ∃ k : Nat, Rr dd W r s k av e a ∧ Hid (nmE s k = nmE s p) ∧ Hid (Kept1 r w W)) (fun W => s.size - (match W.cell? ⟨r, 1, none⟩ with | some v => (intOf v).toNat | none => 0))
  case atStart => exact ⟨p, R2, rfl, K2⟩
  case round =>
    obtain ⟨k, hR, hb, hK⟩ := hrel
    clear c1 R2 K2 BL
    have c0 := hR.c0
    have c1 := hR.c1
    have f1 := hR.row.frozen 1
    have hle := hR.le
    by_cases h1 : k < s.size
    · have d1 : decide ((k : Int) < s.size) = true := decide_eq_true (by omega)
      have LET : ∀ m, Calls Try.prog 145 #[.int .u8 ((s[k]).toNat : Nat)] (wr.drewN m) fun e w' => e = .returned (.bool (isLet (byt s k))) ∧ w' = wr.drewN m := fun m => (rletter_any _ _).mono fun _ _ x => ⟨by rw [x.1, byt_lt h1], x.2.symm⟩
      have DIG : ∀ m, Calls Try.prog 146 #[.int .u8 ((s[k]).toNat : Nat)] (wr.drewN m) fun e w' => e = .returned (.bool (isDig (byt s k))) ∧ w' = wr.drewN m := fun m => (rdigit_any _ _).mono fun _ _ x => ⟨by rw [x.1, byt_lt h1], x.2.symm⟩
      cases hl : isLet (byt s k) with
      | true =>
        rw [hl] at LET
        have hn : isNm (byt s k) = true := by simp [isNm, hl]
        go_wp2_with fail
        go_quiet ((go_at_call 145; exact Calls.quiet_of_same (LET _)))
        go_wp2_with fail
        refine ⟨⟨k + 1, ?_, (nmE_at h1 hn).symm.trans hb, Kept1.set (hK.drewN _) _ _⟩, ?_⟩
        · have := (hR.drewN nq).step (k := k + 1) (by omega)
          simpa using this
        · have hn := ((hR.drewN nq).step (k := k + 1) (by omega)).c1
          have hn' : ((wr.drewN nq).setCell ⟨r, 1, none⟩ (.int .i64 ((k : Int) + 1))).cell? ⟨r, 1, none⟩ = some (.int .i64 ((k : Int) + 1)) := by simpa using hn
          rw [c1, hn']
          simp only [intOf]
          omega
      | false =>
        rw [hl] at LET
        cases hd : isDig (byt s k) with
        | true =>
          rw [hd] at DIG
          have hn : isNm (byt s k) = true := by simp [isNm, hd]
          go_wp2_with fail
          go_quiet ((first | (go_at_call 145; exact Calls.quiet_of_same (LET _)) | (go_at_call 146; exact Calls.quiet_of_same (DIG _))))
          go_wp2_with fail
          refine ⟨⟨k + 1, ?_, (nmE_at h1 hn).symm.trans hb, Kept1.set (hK.drewN _) _ _⟩, ?_⟩
          · have := (hR.drewN nq).step (k := k + 1) (by omega)
            simpa using this
          · have hn := ((hR.drewN nq).step (k := k + 1) (by omega)).c1
            have hn' : ((wr.drewN nq).setCell ⟨r, 1, none⟩ (.int .i64 ((k : Int) + 1))).cell? ⟨r, 1, none⟩ = some (.int .i64 ((k : Int) + 1)) := by simpa using hn
            rw [c1, hn']
            simp only [intOf]
            omega
        | false =>
          rw [hd] at DIG
          have hn : isNm (byt s k) = false := by simp [isNm, hl, hd]
          go_wp2_with fail
          go_quiet ((first | (go_at_call 145; exact Calls.quiet_of_same (LET _)) | (go_at_call 146; exact Calls.quiet_of_same (DIG _))))
          have hE : nmE s p = k := hb.symm.trans (nmE_end (fun x => by have := x.2; rw [hn] at this; cases this))
          have hpk : p ≤ k := hE ▸ nmE_ge s p
          have FAIL := fun m => fail_in (wr.drewN m) r s k av e a (hR.drewN m) 2 p
          have hKn : ∀ m, Kept1 r w (wr.drewN m) := fun m => Kept.drewN hK m
          have hRn := hR.drewN
          clear hb hK
          by_cases hA : p = k
          · have hbad : badNm s p = true := by rw [badNm, hE]; simp [hA]
            subst hA
            go_wp2_with (go_at_call 70; refine (FAIL _).mono ?_; rintro e w3 ⟨rfl, R3, K3⟩; have c03 := R3.c0; have c13 := R3.c1)
            go_quiet (fail)
            go_wp2_with fail
            go_ret2
            try rw [hE]
            exact ⟨rfl, Kept.drewN (Kept.trans (hKn _) K3) _, by first | exact R3.drewN _ | (rw [if_pos hbad]; exact R3.drewN _)⟩
          · have dA : ((k : Int) == (p : Int)) = false := beq_eq_false_iff_ne.2 (by omega)
            have hps : p < s.size := by omega
            have DIG2 : ∀ m, Calls Try.prog 146 #[.int .u8 ((s[p]).toNat : Nat)] (wr.drewN m) fun e w' => e = .returned (.bool (isDig (byt s p))) ∧ w' = wr.drewN m := fun m => (rdigit_any _ _).mono fun _ _ x => ⟨by rw [x.1, byt_lt hps], x.2.symm⟩
            cases hD : isDig (byt s p) with
            | true =>
              rw [hD] at DIG2
              have hbad : badNm s p = true := by simp [badNm, hD]
              go_wp2_with (first | (go_at_call 146; refine (DIG2 _).mono ?_; rintro e w2 ⟨rfl, rfl⟩) | (go_at_call 70; refine (FAIL _).mono ?_; rintro e w3 ⟨rfl, R3, K3⟩; have c03 := R3.c0; have c13 := R3.c1))
              go_quiet (fail)
              go_wp2_with fail
              go_ret2
              try rw [hE]
              exact ⟨rfl, Kept.drewN (Kept.trans (hKn _) K3) _, by first | exact R3.drewN _ | (rw [if_pos hbad]; exact R3.drewN _)⟩
            | false =>
              rw [hD] at DIG2
              by_cases hC : 6 < k - p
              · have dC : decide ((6 : Int) < (k : Int) - (p : Int)) = true := decide_eq_true (by omega)
                have hbad : badNm s p = true := by rw [badNm, hE]; simp [hC]
                go_wp2_with (first | (go_at_call 146; refine (DIG2 _).mono ?_; rintro e w2 ⟨rfl, rfl⟩) | (go_at_call 70; refine (FAIL _).mono ?_; rintro e w3 ⟨rfl, R3, K3⟩; have c03 := R3.c0; have c13 := R3.c1))
                go_quiet (fail)
                go_wp2_with fail
                go_ret2
                try rw [hE]
                exact ⟨rfl, Kept.drewN (Kept.trans (hKn _) K3) _, by first | exact R3.drewN _ | (rw [if_pos hbad]; exact R3.drewN _)⟩
              · have dC : decide ((6 : Int) < (k : Int) - (p : Int)) = false := decide_eq_false (by omega)
                have hbad : ¬ badNm s p = true := by rw [badNm, hE]; simp [hD]; omega
                go_wp2_with (first | (go_at_call 146; refine (DIG2 _).mono ?_; rintro e w2 ⟨rfl, rfl⟩))
                go_quiet (fail)
                go_wp2_with fail
                go_ret2
                try rw [hE]
                exact ⟨rfl, hKn _, by first | exact hRn _ | (rw [if_neg hbad]; exact hRn _)⟩
    · have d1 : decide ((k : Int) < s.size) = false := decide_eq_false (by omega)
      go_wp2_with fail
      go_quiet (fail)
      have hE : nmE s p = k := hb.symm.trans (nmE_end (fun x => h1 x.1))
      have hpk : p ≤ k := hE ▸ nmE_ge s p
      have FAIL := fun m => fail_in (wr.drewN m) r s k av e a (hR.drewN m) 2 p
      have hKn : ∀ m, Kept1 r w (wr.drewN m) := fun m => Kept.drewN hK m
      have hRn := hR.drewN
      clear hb hK
      by_cases hA : p = k
      · have hbad : badNm s p = true := by rw [badNm, hE]; simp [hA]
        subst hA
        go_wp2_with (go_at_call 70; refine (FAIL _).mono ?_; rintro e w3 ⟨rfl, R3, K3⟩; have c03 := R3.c0; have c13 := R3.c1)
        go_quiet (fail)
        go_wp2_with fail
        go_ret2
        try rw [hE]
        exact ⟨rfl, Kept.drewN (Kept.trans (hKn _) K3) _, by first | exact R3.drewN _ | (rw [if_pos hbad]; exact R3.drewN _)⟩
      · have dA : ((k : Int) == (p : Int)) = false := beq_eq_false_iff_ne.2 (by omega)
        have hps : p < s.size := by omega
        have DIG2 : ∀ m, Calls Try.prog 146 #[.int .u8 ((s[p]).toNat : Nat)] (wr.drewN m) fun e w' => e = .returned (.bool (isDig (byt s p))) ∧ w' = wr.drewN m := fun m => (rdigit_any _ _).mono fun _ _ x => ⟨by rw [x.1, byt_lt hps], x.2.symm⟩
        cases hD : isDig (byt s p) with
        | true =>
          rw [hD] at DIG2
          have hbad : badNm s p = true := by simp [badNm, hD]
          go_wp2_with (first | (go_at_call 146; refine (DIG2 _).mono ?_; rintro e w2 ⟨rfl, rfl⟩) | (go_at_call 70; refine (FAIL _).mono ?_; rintro e w3 ⟨rfl, R3, K3⟩; have c03 := R3.c0; have c13 := R3.c1))
          go_quiet (fail)
          go_wp2_with fail
          go_ret2
          try rw [hE]
          exact ⟨rfl, Kept.drewN (Kept.trans (hKn _) K3) _, by first | exact R3.drewN _ | (rw [if_pos hbad]; exact R3.drewN _)⟩
        | false =>
          rw [hD] at DIG2
          by_cases hC : 6 < k - p
          · have dC : decide ((6 : Int) < (k : Int) - (p : Int)) = true := decide_eq_true (by omega)
            have hbad : badNm s p = true := by rw [badNm, hE]; simp [hC]
            go_wp2_with (first | (go_at_call 146; refine (DIG2 _).mono ?_; rintro e w2 ⟨rfl, rfl⟩) | (go_at_call 70; refine (FAIL _).mono ?_; rintro e w3 ⟨rfl, R3, K3⟩; have c03 := R3.c0; have c13 := R3.c1))
            go_quiet (fail)
            go_wp2_with fail
            go_ret2
            try rw [hE]
            exact ⟨rfl, Kept.drewN (Kept.trans (hKn _) K3) _, by first | exact R3.drewN _ | (rw [if_pos hbad]; exact R3.drewN _)⟩
          · have dC : decide ((6 : Int) < (k : Int) - (p : Int)) = false := decide_eq_false (by omega)
            have hbad : ¬ badNm s p = true := by rw [badNm, hE]; simp [hD]; omega
            go_wp2_with (first | (go_at_call 146; refine (DIG2 _).mono ?_; rintro e w2 ⟨rfl, rfl⟩))
            go_quiet (fail)
            go_wp2_with fail
            go_ret2
            try rw [hE]
            exact ⟨rfl, hKn _, by first | exact hRn _ | (rw [if_neg hbad]; exact hRn _)⟩

end Go.Proofs.Ytinphcnknionmaa.Q5

namespace Go.Proofs.Ytinphcnknionmaa.Q5
open Go.RowKit
variable {dd : Int} {aw : Value} {lw : List Tm} {vw : List Value}

/-- The document's reader and its list. -/
structure S1 (dd : Int) (aw : Value) (lw : List Tm) (vw : List Value) (w : World) (base r : Nat) (av : Value) (s : ByteArray) (i e a : Nat) (l : List Tm) (vs : List Value) : Prop where
  rd : Rr dd w r s i av e a
  ls : Ls w base av l vs
  bs : base ≤ w.heap.size
  lo : l.length ≤ 1000
  four : ∀ u ∈ l, u.args.length ≤ 4
  was : Ls w base aw lw vw
  wv : ∀ u ∈ vw, u ∈ vs
  wl : aw.ownBlock = av.ownBlock → lw.length ≤ l.length

theorem S1.read {w w' : World} {base r : Nat} {av : Value} {s : ByteArray} {i e a j e' a' : Nat} {l : List Tm} {vs : List Value} (h : S1 dd aw lw vw w base r av s i e a l vs) (K : Kept1 r w w') (R : Rr dd w' r s j av e' a') : S1 dd aw lw vw w' base r av s j e' a' l vs := by
  refine ⟨R, h.ls.blocks (fun b hb => K.block b (row_lt h.ls.row hb) (fun x => row_ne h.ls.row h.rd.row (by decide) (x ▸ hb))) (fun u hu b hb => ?_), Nat.le_trans h.bs K.size, h.lo, h.four, h.was.blocks (fun b hb => K.block b (row_lt h.was.row hb) (fun x => row_ne h.was.row h.rd.row (by decide) (x ▸ hb))) (fun u hu b hb => by obtain ⟨xs, hx⟩ := h.was.mem hu; exact K.block b (row_lt hx hb) (fun x => row_ne hx h.rd.row (by decide) (x ▸ hb))), h.wv, h.wl⟩
  obtain ⟨xs, hx⟩ := h.ls.mem hu
  exact K.block b (row_lt hx hb) (fun x => row_ne hx h.rd.row (by decide) (x ▸ hb))

theorem S1.kept0 {w w' : World} {base r : Nat} {av : Value} {s : ByteArray} {i e a : Nat} {l : List Tm} {vs : List Value} (h : S1 dd aw lw vw w base r av s i e a l vs) (K : Kept0 w w') : S1 dd aw lw vw w' base r av s i e a l vs :=
  ⟨h.rd.of_block (K.block r h.rd.row.lt (fun x => x)), h.ls.kept0 K, Nat.le_trans h.bs K.size, h.lo, h.four, h.was.kept0 K, h.wv, h.wl⟩

theorem S1.drewN {w : World} {base r : Nat} {av : Value} {s : ByteArray} {i e a : Nat} {l : List Tm} {vs : List Value} (h : S1 dd aw lw vw w base r av s i e a l vs) (m : Nat) : S1 dd aw lw vw (w.drewN m) base r av s i e a l vs := ⟨h.rd.drewN m, h.ls.drewN m, h.bs, h.lo, h.four, h.was.drewN m, h.wv, h.wl⟩

/-- And a term that is being read, its box at x. -/
structure S2 (dd : Int) (aw : Value) (lw : List Tm) (vw : List Value) (w : World) (base r : Nat) (av : Value) (s : ByteArray) (i e a : Nat) (l : List Tm) (vs : List Value) (x : Nat) (nm : ByteArray) (xs : List Nat) (v : Value) : Prop where
  st : S1 dd aw lw vw w base r av s i e a l vs
  box : w.rowIs x 114 2 (tbox nm v)
  arg : ArgsAt1 w base xs v
  ax : av.ownBlock ≠ some x
  nv : ∀ u ∈ vs, ∀ k, u.ownBlock = some k → v.ownBlock ≠ some k
  wx : aw.ownBlock ≠ some x

theorem S2.xr {w : World} {base r : Nat} {av : Value} {s : ByteArray} {i e a : Nat} {l : List Tm} {vs : List Value} {x : Nat} {nm : ByteArray} {xs : List Nat} {v : Value} (h : S2 dd aw lw vw w base r av s i e a l vs x nm xs v) : x ≠ r := by
  rintro rfl
  obtain ⟨c1, h1, _⟩ := h.box
  obtain ⟨c2, h2, _⟩ := h.st.rd.row
  rw [h1] at h2
  injection h2 with e1
  injection e1 with _ e2
  exact absurd e2 (by decide)

theorem S2.c0 {w : World} {base r : Nat} {av : Value} {s : ByteArray} {i e a : Nat} {l : List Tm} {vs : List Value} {x : Nat} {nm : ByteArray} {xs : List Nat} {v : Value} (h : S2 dd aw lw vw w base r av s i e a l vs x nm xs v) : w.cell? ⟨x, 0, none⟩ = some (.string nm) := h.box.cell (i := 0) (by omega)

theorem S2.c1 {w : World} {base r : Nat} {av : Value} {s : ByteArray} {i e a : Nat} {l : List Tm} {vs : List Value} {x : Nat} {nm : ByteArray} {xs : List Nat} {v : Value} (h : S2 dd aw lw vw w base r av s i e a l vs x nm xs v) : w.cell? ⟨x, 1, none⟩ = some v := h.box.cell (i := 1) (by omega)

theorem S2.read {w w' : World} {base r : Nat} {av : Value} {s : ByteArray} {i e a j e' a' : Nat} {l : List Tm} {vs : List Value} {x : Nat} {nm : ByteArray} {xs : List Nat} {v : Value} (h : S2 dd aw lw vw w base r av s i e a l vs x nm xs v) (K : Kept1 r w w') (R : Rr dd w' r s j av e' a') : S2 dd aw lw vw w' base r av s j e' a' l vs x nm xs v :=
  ⟨h.st.read K R, h.box.of_block (K.block x h.box.lt h.xr), row_blocks h.arg (fun b hb => K.block b (row_lt h.arg hb) (fun y => row_ne h.arg h.st.rd.row (by decide) (y ▸ hb))), h.ax, h.nv, h.wx⟩

theorem S2.kept0 {w w' : World} {base r : Nat} {av : Value} {s : ByteArray} {i e a : Nat} {l : List Tm} {vs : List Value} {x : Nat} {nm : ByteArray} {xs : List Nat} {v : Value} (h : S2 dd aw lw vw w base r av s i e a l vs x nm xs v) (K : Kept0 w w') : S2 dd aw lw vw w' base r av s i e a l vs x nm xs v :=
  ⟨h.st.kept0 K, h.box.of_block (K.block x h.box.lt (fun y => y)), h.arg.kept K.grownBy (Decidable.em _), h.ax, h.nv, h.wx⟩

theorem S2.drewN {w : World} {base r : Nat} {av : Value} {s : ByteArray} {i e a : Nat} {l : List Tm} {vs : List Value} {x : Nat} {nm : ByteArray} {xs : List Nat} {v : Value} (h : S2 dd aw lw vw w base r av s i e a l vs x nm xs v) (m : Nat) : S2 dd aw lw vw (w.drewN m) base r av s i e a l vs x nm xs v :=
  ⟨h.st.drewN m, h.box, h.arg, h.ax, h.nv, h.wx⟩

/-- Behind a term within. -/
theorem S2.inner {w w' : World} {base r : Nat} {av av' : Value} {s : ByteArray} {i e a i' e' a' : Nat} {l l' : List Tm} {vs vs' : List Value} {x : Nat} {nm : ByteArray} {xs : List Nat} {v : Value} (h : S2 dd aw lw vw w base r av s i e a l vs x nm xs v) (G : GR r w av w' av') (N : NewV w vs vs') (S : S1 dd aw lw vw w' base r av' s i' e' a' l' vs') : S2 dd aw lw vw w' base r av' s i' e' a' l' vs' x nm xs v := by
  have hx := h.box.lt
  refine ⟨S, h.box.of_block (G.kept.block x hx ?_), row_blocks h.arg (fun b hb => G.kept.block b (row_lt h.arg hb) ?_), ?_, ?_, h.wx⟩
  · rintro (y | y | y)
    · exact h.xr y
    · exact h.ax y
    · omega
  · have hlt := row_lt h.arg hb
    rintro (y | y | y)
    · exact row_ne h.arg h.st.rd.row (by decide) (y ▸ hb)
    · rcases rows_apart (by decide) h.arg h.st.ls.row with z | z
      · rw [hb] at z; cases z
      · exact z (hb.trans y.symm)
    · omega
  · rcases G.row with y | y
    · rw [y]; exact h.ax
    · intro z
      have := y x z
      omega
  · intro u hu k hk
    rcases N u hu with y | y
    · exact h.nv u y k hk
    · intro z
      have h1 := y k hk
      have h2 := row_lt h.arg z
      omega

end Go.Proofs.Ytinphcnknionmaa.Q5

namespace Go.Proofs.Ytinphcnknionmaa
open Go.RowKit Go.Maps

/-- Four cells of a Form, in a block of the document's Forms. -/
def RCells (W : World) (b o : Nat) (op x y : Int) (kv : Value) : Prop :=
  ∃ c fz, W.heap[b]? = some (Obj.cells c 94 fz) ∧ c[o]? = some (.int .i64 op) ∧ c[o + 1]? = some (.int .i64 x) ∧ c[o + 2]? = some (.int .i64 y) ∧ c[o + 3]? = some kv

/-- Forms that lie in some blocks. -/
inductive LayR (A : Nat → Prop) (W : World) : Lf → Prop where
  | mk {b o : Nat} {op x y : Int} {kv : Value} {kids : List Lf} (hb : A b) (hc : RCells W b o op x y kv) (hk : KidsIn kv kids) (h : ∀ k ∈ kids, LayR A W k) : LayR A W (.mk b o op x y kv kids)

/-- Some blocks of Forms stay. -/
def RKeep (A : Nat → Prop) (W W' : World) : Prop := ∀ (k : Nat) (c : Array Value) (fz : Nat × Nat), A k → W.heap[k]? = some (Obj.cells c 94 fz) → W'.heap[k]? = some (Obj.cells c 94 fz)
theorem RKeep.refl (A : Nat → Prop) (W : World) : RKeep A W W := fun _ _ _ _ h => h
theorem RKeep.trans {A : Nat → Prop} {X Y Z : World} (h : RKeep A X Y) (k : RKeep A Y Z) : RKeep A X Z := fun i c fz hb x => k i c fz hb (h i c fz hb x)
theorem RKeep.mono {A A' : Nat → Prop} {X Y : World} (h : RKeep A X Y) (hA : ∀ k, A' k → A k) : RKeep A' X Y := fun i c fz hb x => h i c fz (hA i hb) x
theorem RKeep.setCell {A : Nat → Prop} (W : World) {b : Nat} (hb : ¬ A b) (o : Nat) (u : Value) : RKeep A W (W.setCell ⟨b, o, none⟩ u) := fun k _ _ hk h => (Below.heap_setCell W ⟨b, o, none⟩ u k (by show k ≠ b; rintro rfl; exact hb hk)).trans h
theorem RKeep.alloc (A : Nat → Prop) (W : World) (o : Obj) : RKeep A W (W.alloc o) := fun k _ _ _ h => (Below.heap_alloc W o k (Array.getElem?_eq_some_iff.1 h).1).trans h
theorem RKeep.of_kept {S : Nat → Prop} {W W' : World} (K : Kept S W W') (hS : ∀ k, S k → ∀ c fz, W.heap[k]? ≠ some (Obj.cells c 94 fz)) (A : Nat → Prop) : RKeep A W W' :=
  fun k c fz _ h => (K.block k (Array.getElem?_eq_some_iff.1 h).1 (fun x => hS k x c fz h)).trans h
theorem RKeep.kept0 {W W' : World} (K : Kept0 W W') (A : Nat → Prop) : RKeep A W W' := RKeep.of_kept K (fun _ x => x.elim) A

theorem RCells.keep {A : Nat → Prop} {W W' : World} (K : RKeep A W W') {b o : Nat} (hb : A b) {op x y : Int} {kv : Value} (h : RCells W b o op x y kv) : RCells W' b o op x y kv := by
  obtain ⟨c, fz, h1, h2⟩ := h
  exact ⟨c, fz, K _ _ _ hb h1, h2⟩
theorem LayR.keep {A : Nat → Prop} {W W' : World} (K : RKeep A W W') {t : Lf} (h : LayR A W t) : LayR A W' t := by
  induction h with
  | mk hb hc hk _ ih => exact .mk hb (hc.keep K hb) hk ih
theorem LayR.mono {A A' : Nat → Prop} {W : World} (hA : ∀ k, A k → A' k) {t : Lf} (h : LayR A W t) : LayR A' W t := by
  induction h with
  | mk hb hc hk _ ih => exact .mk (hA _ hb) hc hk ih
theorem LayR.lt {A : Nat → Prop} {W : World} {t : Lf} (h : LayR A W t) : LayR (fun k => A k ∧ k < W.heap.size) W t := by
  induction h with
  | mk hb hc hk _ ih => exact .mk ⟨hb, by obtain ⟨c, fz, h1, _⟩ := hc; exact (Array.getElem?_eq_some_iff.1 h1).1⟩ hc hk ih
theorem LayR.layC {A : Nat → Prop} {W : World} {t : Lf} (h : LayR A W t) : LayC W t := by
  induction h with
  | mk _ hc hk _ ih =>
    obtain ⟨c, fz, h1, h2, h3, h4, h5⟩ := hc
    exact .mk (by simp only [World.cell?, h1]; exact h2) (by simp only [World.cell?, h1]; exact h3) (by simp only [World.cell?, h1]; exact h4) (by simp only [World.cell?, h1]; exact h5) hk ih

/-- The value v is the Form f, whose Kids lie in some blocks. -/
def RVal (A : Nat → Prop) (W : World) (v : Value) (f : Fo) : Prop :=
  ∃ (op x y : Int) (kv : Value) (kids : List Lf), v = .agg #[.int .i64 op, .int .i64 x, .int .i64 y, kv] ∧ KidsIn kv kids ∧ (∀ k ∈ kids, LayR A W k) ∧ f = .mk op x y (kids.map Lf.er)
theorem RVal.keep {A : Nat → Prop} {W W' : World} (K : RKeep A W W') {v : Value} {f : Fo} (h : RVal A W v f) : RVal A W' v f := by
  obtain ⟨op, x, y, kv, kids, h1, h2, h3, h4⟩ := h
  exact ⟨op, x, y, kv, kids, h1, h2, fun k hk => (h3 k hk).keep K, h4⟩
theorem RVal.mono {A A' : Nat → Prop} {W : World} (hA : ∀ k, A k → A' k) {v : Value} {f : Fo} (h : RVal A W v f) : RVal A' W v f := by
  obtain ⟨op, x, y, kv, kids, h1, h2, h3, h4⟩ := h
  exact ⟨op, x, y, kv, kids, h1, h2, fun k hk => (h3 k hk).mono hA, h4⟩
theorem RVal.lt {A : Nat → Prop} {W : World} {v : Value} {f : Fo} (h : RVal A W v f) : RVal (fun k => A k ∧ k < W.heap.size) W v f := by
  obtain ⟨op, x, y, kv, kids, h1, h2, h3, h4⟩ := h
  exact ⟨op, x, y, kv, kids, h1, h2, fun k hk => (h3 k hk).lt, h4⟩
theorem RVal.form {A : Nat → Prop} {W : World} {v : Value} {f : Fo} (h : RVal A W v f) : ∃ (op x y : Int) (a : Option Addr) (n cap : Nat), v = .agg #[.int .i64 op, .int .i64 x, .int .i64 y, .slice a n cap] := by
  obtain ⟨op, x, y, kv, kids, h1, ⟨a, cap, rfl, _⟩, h3, h4⟩ := h
  exact ⟨op, x, y, a, _, cap, h1⟩
theorem RVal.eq (A : Nat → Prop) (W : World) (a b : Int) : RVal A W (.agg #[.int .i64 0, .int .i64 a, .int .i64 b, .slice none 0 0]) (.eq a b) :=
  ⟨0, a, b, .slice none 0 0, [], rfl, ⟨none, 0, rfl, Nat.le_refl _, Or.inl rfl⟩, by simp, rfl⟩

/-- One Form is laid as the Kids of another. -/
theorem RVal.one {A : Nat → Prop} {W : World} {op x y : Int} {kv : Value} {f : Fo} (h : RVal A W (.agg #[.int .i64 op, .int .i64 x, .int .i64 y, kv]) f) (hB : A W.heap.size) :
    RVal A (W.alloc (.cells #[.int .i64 op, .int .i64 x, .int .i64 y, kv] 94)) (.agg #[.int .i64 1, .int .i64 0, .int .i64 0, .slice (some ⟨W.heap.size, 0, none⟩) 1 1]) (.neg f) := by
  obtain ⟨op', x', y', kv', kids, h1, h2, h3, h4⟩ := h
  simp at h1
  obtain ⟨rfl, rfl, rfl, rfl⟩ := h1
  refine ⟨1, 0, 0, _, [.mk W.heap.size 0 op x y kv kids], rfl, ⟨_, 1, rfl, Nat.le_refl _, Or.inr ⟨W.heap.size, 0, rfl, ?_⟩⟩, ?_, ?_⟩
  · intro j t hj
    match j, hj with
    | 0, hj => simp at hj; rw [← hj]; exact ⟨rfl, rfl⟩
  · intro k hk
    obtain rfl := List.mem_singleton.1 hk
    exact .mk hB ⟨_, _, World.alloc_heap_new W _, rfl, rfl, rfl, rfl⟩ h2 (fun k hk => (h3 k hk).keep (RKeep.alloc A W _))
  · rw [h4]; simp [Fo.neg, Lf.er]
/-- Two Forms are. -/
theorem RVal.pair {A : Nat → Prop} {W : World} {op x y op2 x2 y2 : Int} {kv kv2 : Value} {f g : Fo} (h : RVal A W (.agg #[.int .i64 op, .int .i64 x, .int .i64 y, kv]) f) (k : RVal A W (.agg #[.int .i64 op2, .int .i64 x2, .int .i64 y2, kv2]) g) (o : Int) (hB : A W.heap.size) :
    RVal A (W.alloc (.cells #[.int .i64 op, .int .i64 x, .int .i64 y, kv, .int .i64 op2, .int .i64 x2, .int .i64 y2, kv2] 94)) (.agg #[.int .i64 o, .int .i64 0, .int .i64 0, .slice (some ⟨W.heap.size, 0, none⟩) 2 2]) (.two o f g) := by
  obtain ⟨op', x', y', kv', kids, h1, h2, h3, h4⟩ := h
  simp at h1
  obtain ⟨rfl, rfl, rfl, rfl⟩ := h1
  obtain ⟨op', x', y', kv', kids2, h1, k2, k3, k4⟩ := k
  simp at h1
  obtain ⟨rfl, rfl, rfl, rfl⟩ := h1
  refine ⟨o, 0, 0, _, [.mk W.heap.size 0 op x y kv kids, .mk W.heap.size 4 op2 x2 y2 kv2 kids2], rfl, ⟨_, 2, rfl, Nat.le_refl _, Or.inr ⟨W.heap.size, 0, rfl, ?_⟩⟩, ?_, ?_⟩
  · intro j t hj
    match j, hj with
    | 0, hj => simp at hj; rw [← hj]; exact ⟨rfl, rfl⟩
    | 1, hj => simp at hj; rw [← hj]; exact ⟨rfl, rfl⟩
  · intro k hk
    simp at hk
    rcases hk with rfl | rfl
    · exact .mk hB ⟨_, _, World.alloc_heap_new W _, rfl, rfl, rfl, rfl⟩ h2 (fun k hk => (h3 k hk).keep (RKeep.alloc A W _))
    · exact .mk hB ⟨_, _, World.alloc_heap_new W _, rfl, rfl, rfl, rfl⟩ k2 (fun k hk => (k3 k hk).keep (RKeep.alloc A W _))
  · rw [h4, k4]; simp [Fo.two, Lf.er]

set_option maxHeartbeats 1000000 in
/-- two. -/
theorem rtwo_in (w : World) (A : Nat → Prop) (pv u v : Value) (o : Int) (f g : Fo) (hu : RVal A w u f) (hv : RVal A w v g) (hA : ∀ k, w.heap.size ≤ k → A k) :
    Calls Try.prog 131 #[pv, .int .i64 o, u, v] w fun e w' => ∃ z, e = .returned z ∧ RVal A w' z (.two o f g) ∧ Kept0 w w' := by
  obtain ⟨op, x, y, a, n, cap, rfl⟩ := hu.form
  obtain ⟨op2, x2, y2, a2, n2, cap2, rfl⟩ := hv.form
  have K1 : Kept0 w (((w.alloc (.cells #[.int .i64 op, .int .i64 x, .int .i64 y, .slice a n cap] 94)).alloc (.cells #[.int .i64 op2, .int .i64 x2, .int .i64 y2, .slice a2 n2 cap2] 94)).alloc (.cells #[.int .i64 o, .int .i64 0, .int .i64 0, .slice (some ⟨w.heap.size + 1 + 1 + 1, 0, none⟩) 2 2] 94)) := Kept.alloc (Kept.alloc (Kept.alloc (Kept.refl _ w) _) _) _
  have hz : (((w.alloc (.cells #[.int .i64 op, .int .i64 x, .int .i64 y, .slice a n cap] 94)).alloc (.cells #[.int .i64 op2, .int .i64 x2, .int .i64 y2, .slice a2 n2 cap2] 94)).alloc (.cells #[.int .i64 o, .int .i64 0, .int .i64 0, .slice (some ⟨w.heap.size + 1 + 1 + 1, 0, none⟩) 2 2] 94)).heap.size = w.heap.size + 1 + 1 + 1 := by simp
  go_enter Try.func131, Try.ntmps131
  go_wp2_with fail
  refine ⟨rfl, .agg #[.int .i64 o, .int .i64 0, .int .i64 0, .slice (some ⟨w.heap.size + 1 + 1 + 1, 0, none⟩) 2 2], by simp [results, Try.results131, go_sem], _, rfl, ?_, Kept.alloc K1 _⟩
  have P := (hu.keep (RKeep.kept0 K1 A)).pair (hv.keep (RKeep.kept0 K1 A)) o (hA _ (by rw [hz]; omega))
  rw [hz] at P
  exact P

end Go.Proofs.Ytinphcnknionmaa
