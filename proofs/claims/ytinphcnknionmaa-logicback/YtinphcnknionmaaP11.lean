/- The document's reader: its small functions. The document's reader: name. strings.Builder at this program: copyCheck, WriteByte, WriteString. strings.Builder's String at this program, laid by the kit's own tool, in plain words. -/
import Derived.Test.YtinphcnknionmaaP10
import Derived.Test.YtinphcnknionmaaP00
import Derived.Lib.FrozenHead2
import Derived.Lib.OthersKept
import Derived.Lib.Builder
import Derived.Shelf.Strings.BuilderK
import Derived.Test.YtinphcnknionmaaProg
namespace Go.Proofs.Ytinphcnknionmaa
open Go.RowKit

def rrC (s : ByteArray) (i : Nat) (av : Value) (e a : Nat) (j : Nat) : Value := if j = 0 then .string s else if j = 1 then .int .i64 (i : Int) else if j = 2 then av else if j = 3 then .int .i64 (e : Int) else .int .i64 (a : Int)

/-- The document's reader at block r. -/
structure Rr (w : World) (r : Nat) (s : ByteArray) (i : Nat) (av : Value) (e a : Nat) : Prop where
  row : w.rowIs r 112 5 (rrC s i av e a)
  le : i ≤ s.size
  small : s.size ≤ 400

theorem Rr.c0 {w : World} {r : Nat} {s : ByteArray} {i : Nat} {av : Value} {e a : Nat} (h : Rr w r s i av e a) : w.cell? ⟨r, 0, none⟩ = some (.string s) := h.row.cell (by omega)
theorem Rr.c1 {w : World} {r : Nat} {s : ByteArray} {i : Nat} {av : Value} {e a : Nat} (h : Rr w r s i av e a) : w.cell? ⟨r, 1, none⟩ = some (.int .i64 (i : Int)) := h.row.cell (i := 1) (by omega)
theorem Rr.c2 {w : World} {r : Nat} {s : ByteArray} {i : Nat} {av : Value} {e a : Nat} (h : Rr w r s i av e a) : w.cell? ⟨r, 2, none⟩ = some av := h.row.cell (i := 2) (by omega)
theorem Rr.c3 {w : World} {r : Nat} {s : ByteArray} {i : Nat} {av : Value} {e a : Nat} (h : Rr w r s i av e a) : w.cell? ⟨r, 3, none⟩ = some (.int .i64 (e : Int)) := h.row.cell (i := 3) (by omega)
theorem Rr.c4 {w : World} {r : Nat} {s : ByteArray} {i : Nat} {av : Value} {e a : Nat} (h : Rr w r s i av e a) : w.cell? ⟨r, 4, none⟩ = some (.int .i64 (a : Int)) := h.row.cell (i := 4) (by omega)
theorem Rr.drewN {w : World} {r : Nat} {s : ByteArray} {i : Nat} {av : Value} {e a : Nat} (h : Rr w r s i av e a) (m : Nat) : Rr (w.drewN m) r s i av e a := ⟨h.row, h.le, h.small⟩
theorem Rr.of_block {w w' : World} {r : Nat} {s : ByteArray} {i : Nat} {av : Value} {e a : Nat} (h : Rr w r s i av e a) (hb : w'.heap[r]? = w.heap[r]?) : Rr w' r s i av e a := ⟨h.row.of_block hb, h.le, h.small⟩
theorem Rr.step {w : World} {r : Nat} {s : ByteArray} {i : Nat} {av : Value} {e a : Nat} (h : Rr w r s i av e a) {k : Nat} (hk : k ≤ s.size) : Rr (w.setCell ⟨r, 1, none⟩ (.int .i64 (k : Int))) r s k av e a :=
  ⟨(h.row.set 1 _).congr (fun j hj => by
    rcases (by omega : j = 0 ∨ j = 1 ∨ j = 2 ∨ j = 3 ∨ j = 4) with rfl | rfl | rfl | rfl | rfl <;> simp [rrC]), hk, h.small⟩
theorem Rr.err {w : World} {r : Nat} {s : ByteArray} {i : Nat} {av : Value} {e a : Nat} (h : Rr w r s i av e a) (c q : Nat) : Rr ((w.setCell ⟨r, 3, none⟩ (.int .i64 (c : Int))).setCell ⟨r, 4, none⟩ (.int .i64 (q : Int))) r s i av c q :=
  ⟨((h.row.set 3 _).set 4 _).congr (fun j hj => by
    rcases (by omega : j = 0 ∨ j = 1 ∨ j = 2 ∨ j = 3 ∨ j = 4) with rfl | rfl | rfl | rfl | rfl <;> simp [rrC]), h.le, h.small⟩
theorem Rr.list {w : World} {r : Nat} {s : ByteArray} {i : Nat} {av : Value} {e a : Nat} (h : Rr w r s i av e a) (v : Value) : Rr (w.setCell ⟨r, 2, none⟩ v) r s i v e a :=
  ⟨(h.row.set 2 _).congr (fun j hj => by
    rcases (by omega : j = 0 ∨ j = 1 ∨ j = 2 ∨ j = 3 ∨ j = 4) with rfl | rfl | rfl | rfl | rfl <;> simp [rrC]), h.le, h.small⟩

/-- The first error counts. -/
def failE (e c : Nat) : Nat := if e = 0 then c else e
def failA (e a q : Nat) : Nat := if e = 0 then q else a

set_option maxHeartbeats 400000 in
theorem fail_in (w : World) (r : Nat) (s : ByteArray) (i : Nat) (av : Value) (e a : Nat) (h : Rr w r s i av e a) (c q : Nat) :
    Calls Try.prog 70 #[.pointer (some ⟨r, 0, none⟩), .int .i64 (c : Int), .int .i64 (q : Int)] w fun x w' => x = .returned (.tuple #[]) ∧ Rr w' r s i av (failE e c) (failA e a q) ∧ Kept1 r w w' := by
  have c3 := h.c3
  have c4 := h.c4
  have f3 := h.row.frozen 3
  have f4 := h.row.frozen 4
  by_cases he : e = 0
  · subst he
    have e1 : failE 0 c = c := rfl
    have e2 : failA 0 a q = q := rfl
    go_enter Try.func70, Try.ntmps70
    go_wp2
    go_end0
    exact ⟨rfl, by rw [e1, e2]; exact h.err c q, Kept1.set (Kept1.set (Kept.refl _ w) _ _) _ _⟩
  · have d : ((e : Int) == 0) = false := beq_eq_false_iff_ne.2 (by omega)
    have e1 : failE e c = e := if_neg he
    have e2 : failA e a q = a := if_neg he
    go_enter Try.func70, Try.ntmps70
    go_wp2
    go_end0
    exact ⟨rfl, by rw [e1, e2]; exact h, Kept.refl _ w⟩

set_option maxHeartbeats 400000 in
theorem rletter_any (w : World) (c : Nat) :
    Calls Try.prog 145 #[.int .u8 c] w fun e w' => e = .returned (.bool (isLet c)) ∧ w = w' := by
  go_enter Try.func145, Try.ntmps145
  go_wp2
  · go_ret
    exact ⟨ret_bool (isLet_ge ‹_›), rfl⟩
  · go_ret
    exact ⟨ret_bool (isLet_lt ‹_›), rfl⟩

set_option maxHeartbeats 400000 in
theorem rdigit_any (w : World) (c : Nat) :
    Calls Try.prog 146 #[.int .u8 c] w fun e w' => e = .returned (.bool (isDig c)) ∧ w = w' := by
  go_enter Try.func146, Try.ntmps146
  go_wp2
  · go_ret
    exact ⟨ret_bool (isDig_ge ‹_›), rfl⟩
  · go_ret
    exact ⟨ret_bool (isDig_lt ‹_›), rfl⟩

set_option maxHeartbeats 400000 in
theorem rblanks_in (w : World) (r : Nat) (s : ByteArray) (i : Nat) (av : Value) (e a : Nat) (h : Rr w r s i av e a) :
    Calls Try.prog 69 #[.pointer (some ⟨r, 0, none⟩)] w fun x w' => x = .returned (.tuple #[]) ∧ Rr w' r s (bl s i) av e a ∧ Kept1 r w w' := by
  have hs := h.small
  go_enter Try.func69, Try.ntmps69
  go_wp2
  go_loopw [] (fun W => ∃ k : Nat, Rr W r s k av e a ∧ Hid (bl s k = bl s i) ∧ Hid (Kept1 r w W)) (fun W => s.size - (match W.cell? ⟨r, 1, none⟩ with | some v => (intOf v).toNat | none => 0))
  case atStart => exact ⟨i, h, rfl, Kept.refl _ w⟩
  case round =>
    obtain ⟨k, hR, hb, hK⟩ := hrel
    have c1 := hR.c0
    have c2 := hR.c1
    have f2 := hR.row.frozen 1
    have hle := hR.le
    by_cases h1 : k < s.size
    · by_cases h2 : byt s k = 32
      · have d1 : decide ((k : Int) < s.size) = true := decide_eq_true (by omega)
        have e2 : (s[k]).toNat = 32 := (byt_lt h1).trans h2
        go_wp2_with fail
        go_quiet (fail)
        go_wp2_with fail
        refine ⟨⟨k + 1, ?_, (bl_at h1 h2).symm.trans hb, Kept1.set (hK.drewN _) _ _⟩, ?_⟩
        · have := (hR.drewN nq).step (k := k + 1) (by omega)
          simpa using this
        · have hn := ((hR.drewN nq).step (k := k + 1) (by omega)).c1
          have hn' : ((wr.drewN nq).setCell ⟨r, 1, none⟩ (.int .i64 ((k : Int) + 1))).cell? ⟨r, 1, none⟩ = some (.int .i64 ((k : Int) + 1)) := by simpa using hn
          rw [c2, hn']
          simp only [intOf]
          omega
      · have d1 : decide ((k : Int) < s.size) = true := decide_eq_true (by omega)
        have e2 : ¬ (s[k]).toNat = 32 := fun e => h2 ((byt_lt h1).symm.trans e)
        go_wp2_with fail
        go_quiet (fail)
        go_wp2_with fail
        go_end0
        have e : bl s i = k := hb.symm.trans (bl_end (fun x => h2 x.2))
        exact ⟨rfl, e ▸ hR.drewN nq, Kept.drewN hK nq⟩
    · have d1 : decide ((k : Int) < s.size) = false := decide_eq_false (by omega)
      go_wp2_with fail
      go_quiet (fail)
      go_wp2_with fail
      go_end0
      have e : bl s i = k := hb.symm.trans (bl_end (fun x => h1 x.1))
      exact ⟨rfl, e ▸ hR.drewN nq, Kept.drewN hK nq⟩

/-- Does c stand here, and no error? -/
def isB (s : ByteArray) (i e c : Nat) : Bool := decide (e = 0) && stands s (bl s i) c

set_option maxHeartbeats 800000 in
theorem is_in (w : World) (r : Nat) (s : ByteArray) (i : Nat) (av : Value) (e a : Nat) (h : Rr w r s i av e a) (c : Nat) :
    Calls Try.prog 147 #[.pointer (some ⟨r, 0, none⟩), .int .u8 (c : Int)] w fun x w' => x = .returned (.bool (isB s i e c)) ∧ Rr w' r s (bl s i) av e a ∧ Kept1 r w w' := by
  have hs := h.small
  have hle := bl_le h.le
  have BL := rblanks_in w r s i av e a h
  by_cases he : e = 0
  · subst he
    by_cases h1 : bl s i < s.size
    · have d1 : decide ((bl s i : Int) < s.size) = true := decide_eq_true (by omega)
      by_cases h2 : byt s (bl s i) = c
      · have e2 : (s[bl s i]).toNat = c := (byt_lt h1).trans h2
        have hB : isB s i 0 c = true := by simp [isB, stands_true h1 h2]
        go_enter Try.func147, Try.ntmps147
        go_wp2_with (go_at_call 69; refine BL.mono ?_; rintro e w2 ⟨rfl, R2, K2⟩; have c0 := R2.c0; have c1 := R2.c1; have c3 := R2.c3)
        go_quiet (fail)
        go_wp2_with fail
        go_ret
        exact ⟨ret_bool hB.symm, R2.drewN nq, Kept.drewN K2 nq⟩
      · have e2 : ¬ (s[bl s i]).toNat = c := fun e => h2 ((byt_lt h1).symm.trans e)
        have e3 : (((s[bl s i]).toNat : Int) == (c : Int)) = false := beq_eq_false_iff_ne.2 (by omega)
        have hB : isB s i 0 c = false := by simp [isB, stands_ne h2]
        go_enter Try.func147, Try.ntmps147
        go_wp2_with (go_at_call 69; refine BL.mono ?_; rintro e w2 ⟨rfl, R2, K2⟩; have c0 := R2.c0; have c1 := R2.c1; have c3 := R2.c3)
        go_quiet (fail)
        go_wp2_with fail
        go_ret
        exact ⟨ret_bool hB.symm, R2.drewN nq, Kept.drewN K2 nq⟩
    · have d1 : decide ((bl s i : Int) < s.size) = false := decide_eq_false (by omega)
      have hB : isB s i 0 c = false := by simp [isB, stands_end h1]
      go_enter Try.func147, Try.ntmps147
      go_wp2_with (go_at_call 69; refine BL.mono ?_; rintro e w2 ⟨rfl, R2, K2⟩; have c0 := R2.c0; have c1 := R2.c1; have c3 := R2.c3)
      go_quiet (fail)
      go_wp2_with fail
      go_ret
      exact ⟨ret_bool hB.symm, R2.drewN nq, Kept.drewN K2 nq⟩
  · have d : ((e : Int) == 0) = false := beq_eq_false_iff_ne.2 (by omega)
    have hB : isB s i e c = false := by simp [isB, he]
    go_enter Try.func147, Try.ntmps147
    go_wp2_with (go_at_call 69; refine BL.mono ?_; rintro e w2 ⟨rfl, R2, K2⟩; have c0 := R2.c0; have c1 := R2.c1; have c3 := R2.c3)
    go_quiet (fail)
    go_wp2_with fail
    go_ret
    exact ⟨ret_bool hB.symm, R2.drewN nq, Kept.drewN K2 nq⟩

/-- Where it goes on then. -/
def hasI (s : ByteArray) (i e c : Nat) : Nat := if isB s i e c then bl s i + 1 else bl s i
theorem isB_lt {s : ByteArray} {i e c : Nat} (h : isB s i e c = true) : bl s i < s.size := by
  simp [isB, stands] at h
  exact h.2.1

set_option maxHeartbeats 400000 in
theorem rhas1_in (w : World) (r : Nat) (s : ByteArray) (i : Nat) (av : Value) (e a : Nat) (h : Rr w r s i av e a) (c : Nat) :
    Calls Try.prog 114 #[.pointer (some ⟨r, 0, none⟩), .int .u8 (c : Int)] w fun x w' => x = .returned (.bool (isB s i e c)) ∧ Rr w' r s (hasI s i e c) av e a ∧ Kept1 r w w' := by
  have hs := h.small
  have IS := is_in w r s i av e a h c
  cases hB : isB s i e c with
  | true =>
    rw [hB] at IS
    have hlt := isB_lt hB
    have hI : hasI s i e c = bl s i + 1 := by simp [hasI, hB]
    go_enter Try.func114, Try.ntmps114
    go_wp2_with (go_at_call 147; refine IS.mono ?_; rintro e w2 ⟨rfl, R2, K2⟩; have c1 := R2.c1; have f1 := R2.row.frozen 1)
    go_ret
    have := R2.step (k := bl s i + 1) (by omega)
    refine ⟨rfl, by rw [hI]; simpa using this, Kept1.set K2 _ _⟩
  | false =>
    rw [hB] at IS
    have hI : hasI s i e c = bl s i := by simp [hasI, hB]
    go_enter Try.func114, Try.ntmps114
    go_wp2_with (go_at_call 147; refine IS.mono ?_; rintro e w2 ⟨rfl, R2, K2⟩)
    go_ret
    exact ⟨rfl, by rw [hI]; exact R2, K2⟩

end Go.Proofs.Ytinphcnknionmaa

namespace Go.Proofs.Ytinphcnknionmaa
open Go.RowKit

def NmPost (w : World) (r : Nat) (av : Value) (s : ByteArray) (i e a : Nat) (x : Ending) (w' : World) : Prop :=
  x = .returned (.tuple #[.string (s.extract (bl s i) (nmE s (bl s i))), .int .i64 (bl s i : Int)]) ∧ Kept1 r w w' ∧
    (if badNm s (bl s i) = true then Rr w' r s (nmE s (bl s i)) av (failE e 2) (failA e a (bl s i)) else Rr w' r s (nmE s (bl s i)) av e a)

set_option maxHeartbeats 4000000 in
theorem rname_in (w : World) (r : Nat) (s : ByteArray) (i : Nat) (av : Value) (e a : Nat) (h : Rr w r s i av e a) :
    Calls Try.prog 113 #[.pointer (some ⟨r, 0, none⟩)] w (NmPost w r av s i e a) := by
  have hs := h.small
  have BL := rblanks_in w r s i av e a h
  have hple := bl_le h.le
  unfold NmPost
  generalize hpp : bl s i = p at *
  go_enter Try.func113, Try.ntmps113
  go_wp2_with (go_at_call 69; refine BL.mono ?_; rintro e w2 ⟨rfl, R2, K2⟩; have c1 := R2.c1)
  go_loopw [] (fun W => ∃ k : Nat, Rr W r s k av e a ∧ Hid (nmE s k = nmE s p) ∧ Hid (Kept1 r w W)) (fun W => s.size - (match W.cell? ⟨r, 1, none⟩ with | some v => (intOf v).toNat | none => 0))
  case atStart => exact ⟨p, R2, rfl, K2⟩
  case round =>
    obtain ⟨k, hR, hb, hK⟩ := hrel
    clear c1 R2 K2 BL
    have c0 := hR.c0
    have c1 := hR.c1
    have f1 := hR.row.frozen 1
    have hle := hR.le
    by_cases h1 : k < s.size
    · have d1 : decide ((k : Int) < s.size) = true := decide_eq_true (by omega)
      have LET : ∀ m, Calls Try.prog 145 #[.int .u8 ((s[k]).toNat : Nat)] (wr.drewN m) fun e w' => e = .returned (.bool (isLet (byt s k))) ∧ w' = wr.drewN m := fun m => (rletter_any _ _).mono fun _ _ x => ⟨by rw [x.1, byt_lt h1], x.2.symm⟩
      have DIG : ∀ m, Calls Try.prog 146 #[.int .u8 ((s[k]).toNat : Nat)] (wr.drewN m) fun e w' => e = .returned (.bool (isDig (byt s k))) ∧ w' = wr.drewN m := fun m => (rdigit_any _ _).mono fun _ _ x => ⟨by rw [x.1, byt_lt h1], x.2.symm⟩
      cases hl : isLet (byt s k) with
      | true =>
        rw [hl] at LET
        have hn : isNm (byt s k) = true := by simp [isNm, hl]
        go_wp2_with fail
        go_quiet ((go_at_call 145; exact Calls.quiet_of_same (LET _)))
        go_wp2_with fail
        refine ⟨⟨k + 1, ?_, (nmE_at h1 hn).symm.trans hb, Kept1.set (hK.drewN _) _ _⟩, ?_⟩
        · have := (hR.drewN nq).step (k := k + 1) (by omega)
          simpa using this
        · have hn := ((hR.drewN nq).step (k := k + 1) (by omega)).c1
          have hn' : ((wr.drewN nq).setCell ⟨r, 1, none⟩ (.int .i64 ((k : Int) + 1))).cell? ⟨r, 1, none⟩ = some (.int .i64 ((k : Int) + 1)) := by simpa using hn
          rw [c1, hn']
          simp only [intOf]
          omega
      | false =>
        rw [hl] at LET
        cases hd : isDig (byt s k) with
        | true =>
          rw [hd] at DIG
          have hn : isNm (byt s k) = true := by simp [isNm, hd]
          go_wp2_with fail
          go_quiet ((first | (go_at_call 145; exact Calls.quiet_of_same (LET _)) | (go_at_call 146; exact Calls.quiet_of_same (DIG _))))
          go_wp2_with fail
          refine ⟨⟨k + 1, ?_, (nmE_at h1 hn).symm.trans hb, Kept1.set (hK.drewN _) _ _⟩, ?_⟩
          · have := (hR.drewN nq).step (k := k + 1) (by omega)
            simpa using this
          · have hn := ((hR.drewN nq).step (k := k + 1) (by omega)).c1
            have hn' : ((wr.drewN nq).setCell ⟨r, 1, none⟩ (.int .i64 ((k : Int) + 1))).cell? ⟨r, 1, none⟩ = some (.int .i64 ((k : Int) + 1)) := by simpa using hn
            rw [c1, hn']
            simp only [intOf]
            omega
        | false =>
          rw [hd] at DIG
          have hn : isNm (byt s k) = false := by simp [isNm, hl, hd]
          go_wp2_with fail
          go_quiet ((first | (go_at_call 145; exact Calls.quiet_of_same (LET _)) | (go_at_call 146; exact Calls.quiet_of_same (DIG _))))
          have hE : nmE s p = k := hb.symm.trans (nmE_end (fun x => by have := x.2; rw [hn] at this; cases this))
          have hpk : p ≤ k := hE ▸ nmE_ge s p
          have FAIL := fun m => fail_in (wr.drewN m) r s k av e a (hR.drewN m) 2 p
          have hKn : ∀ m, Kept1 r w (wr.drewN m) := fun m => Kept.drewN hK m
          have hRn := hR.drewN
          clear hb hK
          by_cases hA : p = k
          · have hbad : badNm s p = true := by rw [badNm, hE]; simp [hA]
            subst hA
            go_wp2_with (go_at_call 70; refine (FAIL _).mono ?_; rintro e w3 ⟨rfl, R3, K3⟩; have c03 := R3.c0; have c13 := R3.c1)
            go_quiet (fail)
            go_wp2_with fail
            go_ret2
            try rw [hE]
            exact ⟨rfl, Kept.drewN (Kept.trans (hKn _) K3) _, by first | exact R3.drewN _ | (rw [if_pos hbad]; exact R3.drewN _)⟩
          · have dA : ((k : Int) == (p : Int)) = false := beq_eq_false_iff_ne.2 (by omega)
            have hps : p < s.size := by omega
            have DIG2 : ∀ m, Calls Try.prog 146 #[.int .u8 ((s[p]).toNat : Nat)] (wr.drewN m) fun e w' => e = .returned (.bool (isDig (byt s p))) ∧ w' = wr.drewN m := fun m => (rdigit_any _ _).mono fun _ _ x => ⟨by rw [x.1, byt_lt hps], x.2.symm⟩
            cases hD : isDig (byt s p) with
            | true =>
              rw [hD] at DIG2
              have hbad : badNm s p = true := by simp [badNm, hD]
              go_wp2_with (first | (go_at_call 146; refine (DIG2 _).mono ?_; rintro e w2 ⟨rfl, rfl⟩) | (go_at_call 70; refine (FAIL _).mono ?_; rintro e w3 ⟨rfl, R3, K3⟩; have c03 := R3.c0; have c13 := R3.c1))
              go_quiet (fail)
              go_wp2_with fail
              go_ret2
              try rw [hE]
              exact ⟨rfl, Kept.drewN (Kept.trans (hKn _) K3) _, by first | exact R3.drewN _ | (rw [if_pos hbad]; exact R3.drewN _)⟩
            | false =>
              rw [hD] at DIG2
              by_cases hC : 6 < k - p
              · have dC : decide ((6 : Int) < (k : Int) - (p : Int)) = true := decide_eq_true (by omega)
                have hbad : badNm s p = true := by rw [badNm, hE]; simp [hC]
                go_wp2_with (first | (go_at_call 146; refine (DIG2 _).mono ?_; rintro e w2 ⟨rfl, rfl⟩) | (go_at_call 70; refine (FAIL _).mono ?_; rintro e w3 ⟨rfl, R3, K3⟩; have c03 := R3.c0; have c13 := R3.c1))
                go_quiet (fail)
                go_wp2_with fail
                go_ret2
                try rw [hE]
                exact ⟨rfl, Kept.drewN (Kept.trans (hKn _) K3) _, by first | exact R3.drewN _ | (rw [if_pos hbad]; exact R3.drewN _)⟩
              · have dC : decide ((6 : Int) < (k : Int) - (p : Int)) = false := decide_eq_false (by omega)
                have hbad : ¬ badNm s p = true := by rw [badNm, hE]; simp [hD]; omega
                go_wp2_with (first | (go_at_call 146; refine (DIG2 _).mono ?_; rintro e w2 ⟨rfl, rfl⟩))
                go_quiet (fail)
                go_wp2_with fail
                go_ret2
                try rw [hE]
                exact ⟨rfl, hKn _, by first | exact hRn _ | (rw [if_neg hbad]; exact hRn _)⟩
    · have d1 : decide ((k : Int) < s.size) = false := decide_eq_false (by omega)
      go_wp2_with fail
      go_quiet (fail)
      have hE : nmE s p = k := hb.symm.trans (nmE_end (fun x => h1 x.1))
      have hpk : p ≤ k := hE ▸ nmE_ge s p
      have FAIL := fun m => fail_in (wr.drewN m) r s k av e a (hR.drewN m) 2 p
      have hKn : ∀ m, Kept1 r w (wr.drewN m) := fun m => Kept.drewN hK m
      have hRn := hR.drewN
      clear hb hK
      by_cases hA : p = k
      · have hbad : badNm s p = true := by rw [badNm, hE]; simp [hA]
        subst hA
        go_wp2_with (go_at_call 70; refine (FAIL _).mono ?_; rintro e w3 ⟨rfl, R3, K3⟩; have c03 := R3.c0; have c13 := R3.c1)
        go_quiet (fail)
        go_wp2_with fail
        go_ret2
        try rw [hE]
        exact ⟨rfl, Kept.drewN (Kept.trans (hKn _) K3) _, by first | exact R3.drewN _ | (rw [if_pos hbad]; exact R3.drewN _)⟩
      · have dA : ((k : Int) == (p : Int)) = false := beq_eq_false_iff_ne.2 (by omega)
        have hps : p < s.size := by omega
        have DIG2 : ∀ m, Calls Try.prog 146 #[.int .u8 ((s[p]).toNat : Nat)] (wr.drewN m) fun e w' => e = .returned (.bool (isDig (byt s p))) ∧ w' = wr.drewN m := fun m => (rdigit_any _ _).mono fun _ _ x => ⟨by rw [x.1, byt_lt hps], x.2.symm⟩
        cases hD : isDig (byt s p) with
        | true =>
          rw [hD] at DIG2
          have hbad : badNm s p = true := by simp [badNm, hD]
          go_wp2_with (first | (go_at_call 146; refine (DIG2 _).mono ?_; rintro e w2 ⟨rfl, rfl⟩) | (go_at_call 70; refine (FAIL _).mono ?_; rintro e w3 ⟨rfl, R3, K3⟩; have c03 := R3.c0; have c13 := R3.c1))
          go_quiet (fail)
          go_wp2_with fail
          go_ret2
          try rw [hE]
          exact ⟨rfl, Kept.drewN (Kept.trans (hKn _) K3) _, by first | exact R3.drewN _ | (rw [if_pos hbad]; exact R3.drewN _)⟩
        | false =>
          rw [hD] at DIG2
          by_cases hC : 6 < k - p
          · have dC : decide ((6 : Int) < (k : Int) - (p : Int)) = true := decide_eq_true (by omega)
            have hbad : badNm s p = true := by rw [badNm, hE]; simp [hC]
            go_wp2_with (first | (go_at_call 146; refine (DIG2 _).mono ?_; rintro e w2 ⟨rfl, rfl⟩) | (go_at_call 70; refine (FAIL _).mono ?_; rintro e w3 ⟨rfl, R3, K3⟩; have c03 := R3.c0; have c13 := R3.c1))
            go_quiet (fail)
            go_wp2_with fail
            go_ret2
            try rw [hE]
            exact ⟨rfl, Kept.drewN (Kept.trans (hKn _) K3) _, by first | exact R3.drewN _ | (rw [if_pos hbad]; exact R3.drewN _)⟩
          · have dC : decide ((6 : Int) < (k : Int) - (p : Int)) = false := decide_eq_false (by omega)
            have hbad : ¬ badNm s p = true := by rw [badNm, hE]; simp [hD]; omega
            go_wp2_with (first | (go_at_call 146; refine (DIG2 _).mono ?_; rintro e w2 ⟨rfl, rfl⟩))
            go_quiet (fail)
            go_wp2_with fail
            go_ret2
            try rw [hE]
            exact ⟨rfl, hKn _, by first | exact hRn _ | (rw [if_neg hbad]; exact hRn _)⟩

end Go.Proofs.Ytinphcnknionmaa

namespace Go.Proofs.Ytinphcnknionmaa
open Go.RowKit

theorem sizeBld : (Try.prog.info? 119).map (·.size) = some 2 := by kernel_rfl
theorem liesBld : liesAt Try.prog Try.prog.depth 119 (2 / Try.prog.cellsOf 119) 0 119 1 = true := by kernel_rfl
theorem infoByte : (Try.prog.info? 5).map (fun i => (i.zero, i.size, i.bytes)) = some (some (.int .u8 0), 1, 1) := by kernel_rfl

set_option maxHeartbeats 1000000 in
set_option maxRecDepth 100000 in
theorem check_used (b : Nat) (w : World) (h0 : w.cell? ⟨b, 0, none⟩ = some (.pointer (some ⟨b, 0, none⟩))) :
    Calls Try.prog 134 #[.pointer (some ⟨b, 0, none⟩)] w fun e w' => e = .returned (.tuple #[]) ∧ w' = w := by
  obtain ⟨j, hj, _⟩ := Option.map_eq_some_iff.1 sizeBld
  go_enter Try.func134, Try.ntmps134
  go_wp2
  rw [Lib.run_neq_ptr_same w _ Try.underlying116 hj]
  go_wp2
  go_end0
  exact ⟨rfl, rfl⟩

set_option maxHeartbeats 1000000 in
set_option maxRecDepth 100000 in
theorem check_fresh (b : Nat) (w : World) (h0 : w.cell? ⟨b, 0, none⟩ = some (.pointer none)) (hsh : w.shape? b = some (119, 2)) (hfz : w.frozen? ⟨b, 0, none⟩ = false) :
    Calls Try.prog 134 #[.pointer (some ⟨b, 0, none⟩)] w fun e w' => e = .returned (.tuple #[]) ∧ w' = w.setCell ⟨b, 0, none⟩ (.pointer (some ⟨b, 0, none⟩)) := by
  obtain ⟨j, hj, hjs⟩ := Option.map_eq_some_iff.1 sizeBld
  go_enter Try.func134, Try.ntmps134
  go_wp2
  rw [Lib.run_to_unsafe w ⟨b, 0, none⟩ Try.underlying116 Try.underlying234 hj (by rw [hjs]; decide) hsh (Nat.zero_lt_succ 1)]
  simp only [Result.andThen]
  rw [Oper.upon_value]
  go_wp2
  rw [run_callFunc_extern Try.func159 (by kernel_rfl) (by kernel_rfl) (by kernel_rfl) (e := Extern.AbiNoEscape.same) (by kernel_rfl)]
  rw [Lib.run_noEscape]
  simp only [Result.andThen]
  rw [Oper.upon_value]
  go_wp2
  rw [Lib.run_from_unsafe w ⟨b, 0, none⟩ Try.underlying234 Try.underlying116 hj hsh liesBld]
  simp only [Result.andThen]
  rw [Oper.upon_value]
  go_wp2
  go_end0
  exact ⟨rfl, rfl⟩

/-- A builder at b that holds bs. -/
abbrev Bld (w : World) (B b : Nat) (bs : List Value) : Prop := Lib.IsBuilderF 119 5 B b bs w
/-- What a builder leaves alone. -/
def BKept (B b : Nat) (w w' : World) : Prop := Below B w w' ∧ Lib.OthersKept 5 (some b) w w'

theorem check_in (B b : Nat) (bs : List Value) (w : World) (h : Bld w B b bs) :
    Calls Try.prog 134 #[.pointer (some ⟨b, 0, none⟩)] w fun e w' => e = .returned (.tuple #[]) ∧ (Lib.BuilderAtF 119 5 B b (.pointer (some ⟨b, 0, none⟩)) bs w' ∧ Below B w w' ∧ Lib.OthersKept 5 (some b) w w') := by
  rcases h with h | h
  · refine (check_fresh b w h.cell0 h.shape h.frozen0).mono ?_
    rintro e w' ⟨rfl, rfl⟩
    exact ⟨rfl, h.used _, (Below.refl B w).setCell (p := ⟨b, 0, none⟩) h.1 _, (Lib.OthersKept.refl _ _ w).setCell ⟨b, 0, none⟩ rfl _⟩
  · refine (check_used b w h.cell0).mono ?_
    rintro e w' ⟨rfl, rfl⟩
    exact ⟨rfl, h, Below.refl B _, Lib.OthersKept.refl _ _ _⟩

set_option maxHeartbeats 1000000 in
set_option maxRecDepth 100000 in
theorem wbyte_in (B b : Nat) (bs : List Value) (c : Int) (w : World) (h : Bld w B b bs) (hlen : bs.length + 1 ≤ 140737488355328) (hBw : B ≤ w.heap.size) :
    Calls Try.prog 117 #[.pointer (some ⟨b, 0, none⟩), .int .u8 c] w fun e w' => e = .returned .nilIface ∧ Bld w' B b (bs ++ [.int .u8 c]) ∧ BKept B b w w' := by
  obtain ⟨i0, hi, hz0, hz1, hz2⟩ := info_parts infoByte
  go_enter Try.func117, Try.ntmps117
  go_wp2_with (go_at_call 134; refine (check_in B b bs _ h).mono ?_)
  rintro e w1 ⟨rfl, h1, hb1, hk1⟩
  obtain ⟨hB, v, hbk, hown, hne⟩ := h1
  have c0 : w1.cell? ⟨b, 0, none⟩ = some (.pointer (some ⟨b, 0, none⟩)) := by rw [Lib.cell_of_heap hbk]; rfl
  have c1 : w1.cell? ⟨b, 1, none⟩ = some v := by rw [Lib.cell_of_heap hbk]; rfl
  go_wp2_with (at_builtin; refine wpList_append_ownF _ rfl _ _ 117 rfl B 5 i0 (.int .u8 0) 1 1 Try.underlying117 hi hz0 hz1 hz2 rfl (by decide) _ _ _ rfl (hown.alloc _) ⟨w1.heap.size, 0, none⟩ 1 1 [.int .u8 c] rfl rfl ?c1 ?c2 ?c3 ?c4 ?c5 ?_)
  case c1 =>
    intro j u hj
    match j, hj with
    | 0, hj => simp at hj; subst hj; simp [Addr.add]
  case c2 => intro u hu; simp at hu; subst hu; rfl
  case c3 => unfold maxLen; omega
  case c4 => omega
  case c5 => have := hb1.size; simp; omega
  intro v' w2 hown' hgrow _
  have hlt : b < w1.heap.size := by
    rcases Nat.lt_or_ge b w1.heap.size with h' | h'
    · exact h'
    · simp [Array.getElem?_eq_none h'] at hbk
  have hb2 : w2.heap[b]? = some (.cells #[.pointer (some ⟨b, 0, none⟩), v] 119 (0, 0)) := by
    rw [hgrow.block b (by simp; omega) (fun e => hne e.symm), Lib.alloc_old w1 _ b hlt]
    exact hbk
  have d0 : w2.cell? ⟨b, 0, none⟩ = some (.pointer (some ⟨b, 0, none⟩)) := by rw [Lib.cell_of_heap hb2]; rfl
  have d1 : w2.cell? ⟨b, 1, none⟩ = some v := by rw [Lib.cell_of_heap hb2]; rfl
  have f1 : w2.frozen? ⟨b, 1, none⟩ = false := Lib.frozen_of_heap hb2 1
  obtain ⟨g, cap, rfl⟩ : ∃ g cap, v' = .slice (some ⟨g, 0, none⟩) (bs.length + 1) cap := by
    rcases hown'.2 with ⟨_, h0⟩ | ⟨g, cap, cur, fz, hv, _⟩
    · omega
    · exact ⟨g, cap, hv⟩
  go_wp2
  go_ret
  refine ⟨rfl, Or.inr ?_, ?_, ((hk1.alloc _).grown hgrow (Lib.ownsRowF_kind (hown.alloc _))).setCell ⟨b, 1, none⟩ rfl _⟩
  · exact Lib.BuilderAtF.put (T := 119) (e := 5) hB hb2 (bs' := bs ++ [.int .u8 c]) (by simpa using hown') (by decide)
  · exact ((hb1.alloc (by have := hb1.size; omega) _).grown hgrow (by have := hb1.size; simp; omega) (fun k hk => (hown.lt k hk).1)).setCell (p := ⟨b, 1, none⟩) hB _

set_option maxHeartbeats 1000000 in
set_option maxRecDepth 100000 in
theorem wstring_in (B b : Nat) (bs : List Value) (s : ByteArray) (w : World) (h : Bld w B b bs) (hlen : bs.length + s.size ≤ 140737488355328) (hBw : B ≤ w.heap.size) :
    Calls Try.prog 103 #[.pointer (some ⟨b, 0, none⟩), .string s] w fun e w' => e = .returned (.tuple #[.int .i64 s.size, .nilIface]) ∧ Bld w' B b (bs ++ Lib.strCells s) ∧ BKept B b w w' := by
  obtain ⟨i0, hi, hz0, hz1, hz2⟩ := info_parts infoByte
  go_enter Try.func103, Try.ntmps103
  go_wp2_with (go_at_call 134; refine (check_in B b bs _ h).mono ?_)
  rintro e w1 ⟨rfl, h1, hb1, hk1⟩
  obtain ⟨hB, v, hbk, hown, hne⟩ := h1
  have c0 : w1.cell? ⟨b, 0, none⟩ = some (.pointer (some ⟨b, 0, none⟩)) := by rw [Lib.cell_of_heap hbk]; rfl
  have c1 : w1.cell? ⟨b, 1, none⟩ = some v := by rw [Lib.cell_of_heap hbk]; rfl
  go_wp2_with (at_builtin; refine Lib.wpList_append_own_stringF _ rfl _ _ 117 9 rfl B 5 i0 Try.underlying117 Try.underlying9 hi hz0 hz1 hz2 _ _ _ rfl hown s rfl ?c3 ?c4 ?c5 ?_)
  case c3 => unfold maxLen; omega
  case c4 => omega
  case c5 => have := hb1.size; omega
  intro v' w2 hown' hgrow _
  have hlt : b < w1.heap.size := by
    rcases Nat.lt_or_ge b w1.heap.size with h' | h'
    · exact h'
    · simp [Array.getElem?_eq_none h'] at hbk
  have hb2 : w2.heap[b]? = some (.cells #[.pointer (some ⟨b, 0, none⟩), v] 119 (0, 0)) := by
    rw [hgrow.block b hlt (fun e => hne e.symm)]
    exact hbk
  have d0 : w2.cell? ⟨b, 0, none⟩ = some (.pointer (some ⟨b, 0, none⟩)) := by rw [Lib.cell_of_heap hb2]; rfl
  have d1 : w2.cell? ⟨b, 1, none⟩ = some v := by rw [Lib.cell_of_heap hb2]; rfl
  have f1 : w2.frozen? ⟨b, 1, none⟩ = false := Lib.frozen_of_heap hb2 1
  obtain ⟨ao, n', cap, rfl⟩ : ∃ ao n' cap, v' = .slice ao n' cap := by
    rcases hown'.2 with ⟨hv, _⟩ | ⟨g, cap, cur, fz, hv, _⟩
    · exact ⟨_, _, _, hv⟩
    · exact ⟨_, _, _, hv⟩
  go_wp2
  go_ret2
  refine ⟨rfl, Or.inr ?_, ?_, (hk1.grown hgrow (Lib.ownsRowF_kind hown)).setCell ⟨b, 1, none⟩ rfl _⟩
  · exact Lib.BuilderAtF.put (T := 119) (e := 5) hB hb2 (bs' := bs ++ Lib.strCells s) (by simpa [Lib.strCells_length] using hown') (by decide)
  · exact (hb1.grown hgrow (by have := hb1.size; omega) (fun k hk => (hown.lt k hk).1)).setCell (p := ⟨b, 1, none⟩) hB _

end Go.Proofs.Ytinphcnknionmaa

namespace Go.Proofs
open Go.Shelf
def Try.lays169_ren : Go.Shelf.Ren := ⟨fun | 169 => 74 | n => n, fun | 70 => 116 | 9 => 9 | 0 => 0 | 72 => 119 | 37 => 117 | 127 => 191 | 3 => 3 | 5 => 5 | n => n, fun | n => n⟩
theorem Try.lays169 : Go.Proofs.Lays.n169 Try.prog Try.lays169_ren := {
  mixed := by kernel_rfl
  f169 := Try.func74.trans (congrArg some (by kernel_rfl))
  t0 := Try.underlying0
  a0 := Try.isAgg0
  z0 := Try.sizeOf0
  v0 := Try.zeroValue0
  t3 := Try.underlying3
  a3 := Try.isAgg3
  z3 := Try.sizeOf3
  v3 := Try.zeroValue3
  t9 := Try.underlying9
  a9 := Try.isAgg9
  z9 := Try.sizeOf9
  v9 := Try.zeroValue9
  t37 := Try.underlying117
  a37 := Try.isAgg117
  z37 := Try.sizeOf117
  v37 := Try.zeroValue117
  t70 := Try.underlying116
  a70 := Try.isAgg116
  z70 := Try.sizeOf116
  v70 := Try.zeroValue116
  t72 := Try.underlying119
  a72 := Try.isAgg119
  z72 := Try.sizeOf119
  v72 := Try.zeroValue119
  t127 := Try.underlying191
  a127 := Try.isAgg191
  z127 := Try.sizeOf191
  v127 := Try.zeroValue191 }
theorem Try.Builder_Extra_169 : Builder.Extra Try.prog Try.lays169_ren := {
  sizeBuilder := by kernel_rfl
  liesBuilder := by kernel_rfl
  t5 := Try.underlying5
  a5 := Try.isAgg5
  z5 := Try.sizeOf5
  v5 := Try.zeroValue5
  infoByte := by kernel_rfl
  cellsByte := by kernel_rfl
  sizeByte := by kernel_rfl
  neB5 := by decide }
open Go.RowKit in
theorem Try.Builder_String_any_k (B b : Nat) (l : List UInt8) (w : World) (h : Lib.IsBuilderF 119 5 B b (Lib.byteCells l) w) (hBw : B ≤ w.heap.size) :
    Calls Try.prog 74 #[.pointer (some ⟨b, 0, none⟩)] w fun e w' => e = .returned (.string ⟨l.toArray⟩) ∧ (Lib.IsBuilderF 119 5 B b (Lib.byteCells l) w' ∧ Below B w w' ∧ Lib.OthersKept 5 (some b) w w') := Any.Builder_String_any_k Try.lays169 Try.Builder_Extra_169 B b l w h hBw
end Go.Proofs
