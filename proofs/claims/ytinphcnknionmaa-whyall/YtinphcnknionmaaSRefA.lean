/- The document's reader: its small functions. -/
import Derived.Test.YtinphcnknionmaaG23
namespace Go.Proofs.Ytinphcnknionmaa
open Go.RowKit

def rrC (s : ByteArray) (i : Nat) (av : Value) (e a : Nat) (j : Nat) : Value := if j = 0 then .string s else if j = 1 then .int .i64 (i : Int) else if j = 2 then av else if j = 3 then .int .i64 (e : Int) else .int .i64 (a : Int)

/-- The document's reader at block r. -/
structure Rr (w : World) (r : Nat) (s : ByteArray) (i : Nat) (av : Value) (e a : Nat) : Prop where
  row : w.rowIs r 112 5 (rrC s i av e a)
  le : i ≤ s.size
  small : s.size ≤ 400

theorem Rr.c0 {w : World} {r : Nat} {s : ByteArray} {i : Nat} {av : Value} {e a : Nat} (h : Rr w r s i av e a) : w.cell? ⟨r, 0, none⟩ = some (.string s) := h.row.cell (by omega)
theorem Rr.c1 {w : World} {r : Nat} {s : ByteArray} {i : Nat} {av : Value} {e a : Nat} (h : Rr w r s i av e a) : w.cell? ⟨r, 1, none⟩ = some (.int .i64 (i : Int)) := h.row.cell (i := 1) (by omega)
theorem Rr.c2 {w : World} {r : Nat} {s : ByteArray} {i : Nat} {av : Value} {e a : Nat} (h : Rr w r s i av e a) : w.cell? ⟨r, 2, none⟩ = some av := h.row.cell (i := 2) (by omega)
theorem Rr.c3 {w : World} {r : Nat} {s : ByteArray} {i : Nat} {av : Value} {e a : Nat} (h : Rr w r s i av e a) : w.cell? ⟨r, 3, none⟩ = some (.int .i64 (e : Int)) := h.row.cell (i := 3) (by omega)
theorem Rr.c4 {w : World} {r : Nat} {s : ByteArray} {i : Nat} {av : Value} {e a : Nat} (h : Rr w r s i av e a) : w.cell? ⟨r, 4, none⟩ = some (.int .i64 (a : Int)) := h.row.cell (i := 4) (by omega)
theorem Rr.drewN {w : World} {r : Nat} {s : ByteArray} {i : Nat} {av : Value} {e a : Nat} (h : Rr w r s i av e a) (m : Nat) : Rr (w.drewN m) r s i av e a := ⟨h.row, h.le, h.small⟩
theorem Rr.of_block {w w' : World} {r : Nat} {s : ByteArray} {i : Nat} {av : Value} {e a : Nat} (h : Rr w r s i av e a) (hb : w'.heap[r]? = w.heap[r]?) : Rr w' r s i av e a := ⟨h.row.of_block hb, h.le, h.small⟩
theorem Rr.step {w : World} {r : Nat} {s : ByteArray} {i : Nat} {av : Value} {e a : Nat} (h : Rr w r s i av e a) {k : Nat} (hk : k ≤ s.size) : Rr (w.setCell ⟨r, 1, none⟩ (.int .i64 (k : Int))) r s k av e a :=
  ⟨(h.row.set 1 _).congr (fun j hj => by
    rcases (by omega : j = 0 ∨ j = 1 ∨ j = 2 ∨ j = 3 ∨ j = 4) with rfl | rfl | rfl | rfl | rfl <;> simp [rrC]), hk, h.small⟩
theorem Rr.err {w : World} {r : Nat} {s : ByteArray} {i : Nat} {av : Value} {e a : Nat} (h : Rr w r s i av e a) (c q : Nat) : Rr ((w.setCell ⟨r, 3, none⟩ (.int .i64 (c : Int))).setCell ⟨r, 4, none⟩ (.int .i64 (q : Int))) r s i av c q :=
  ⟨((h.row.set 3 _).set 4 _).congr (fun j hj => by
    rcases (by omega : j = 0 ∨ j = 1 ∨ j = 2 ∨ j = 3 ∨ j = 4) with rfl | rfl | rfl | rfl | rfl <;> simp [rrC]), h.le, h.small⟩
theorem Rr.list {w : World} {r : Nat} {s : ByteArray} {i : Nat} {av : Value} {e a : Nat} (h : Rr w r s i av e a) (v : Value) : Rr (w.setCell ⟨r, 2, none⟩ v) r s i v e a :=
  ⟨(h.row.set 2 _).congr (fun j hj => by
    rcases (by omega : j = 0 ∨ j = 1 ∨ j = 2 ∨ j = 3 ∨ j = 4) with rfl | rfl | rfl | rfl | rfl <;> simp [rrC]), h.le, h.small⟩

/-- The first error counts. -/
def failE (e c : Nat) : Nat := if e = 0 then c else e
def failA (e a q : Nat) : Nat := if e = 0 then q else a

set_option maxHeartbeats 400000 in
theorem fail_in (w : World) (r : Nat) (s : ByteArray) (i : Nat) (av : Value) (e a : Nat) (h : Rr w r s i av e a) (c q : Nat) :
    Calls Try.prog 70 #[.pointer (some ⟨r, 0, none⟩), .int .i64 (c : Int), .int .i64 (q : Int)] w fun x w' => x = .returned (.tuple #[]) ∧ Rr w' r s i av (failE e c) (failA e a q) ∧ Kept1 r w w' := by
  have c3 := h.c3
  have c4 := h.c4
  have f3 := h.row.frozen 3
  have f4 := h.row.frozen 4
  by_cases he : e = 0
  · subst he
    have e1 : failE 0 c = c := rfl
    have e2 : failA 0 a q = q := rfl
    go_enter Try.func70, Try.ntmps70
    go_wp2
    go_end0
    exact ⟨rfl, by rw [e1, e2]; exact h.err c q, Kept1.set (Kept1.set (Kept.refl _ w) _ _) _ _⟩
  · have d : ((e : Int) == 0) = false := beq_eq_false_iff_ne.2 (by omega)
    have e1 : failE e c = e := if_neg he
    have e2 : failA e a q = a := if_neg he
    go_enter Try.func70, Try.ntmps70
    go_wp2
    go_end0
    exact ⟨rfl, by rw [e1, e2]; exact h, Kept.refl _ w⟩

set_option maxHeartbeats 400000 in
theorem rletter_any (w : World) (c : Nat) :
    Calls Try.prog 145 #[.int .u8 c] w fun e w' => e = .returned (.bool (isLet c)) ∧ w = w' := by
  go_enter Try.func145, Try.ntmps145
  go_wp2
  · go_ret
    exact ⟨ret_bool (isLet_ge ‹_›), rfl⟩
  · go_ret
    exact ⟨ret_bool (isLet_lt ‹_›), rfl⟩

set_option maxHeartbeats 400000 in
theorem rdigit_any (w : World) (c : Nat) :
    Calls Try.prog 146 #[.int .u8 c] w fun e w' => e = .returned (.bool (isDig c)) ∧ w = w' := by
  go_enter Try.func146, Try.ntmps146
  go_wp2
  · go_ret
    exact ⟨ret_bool (isDig_ge ‹_›), rfl⟩
  · go_ret
    exact ⟨ret_bool (isDig_lt ‹_›), rfl⟩

set_option maxHeartbeats 400000 in
theorem rblanks_in (w : World) (r : Nat) (s : ByteArray) (i : Nat) (av : Value) (e a : Nat) (h : Rr w r s i av e a) :
    Calls Try.prog 69 #[.pointer (some ⟨r, 0, none⟩)] w fun x w' => x = .returned (.tuple #[]) ∧ Rr w' r s (bl s i) av e a ∧ Kept1 r w w' := by
  have hs := h.small
  go_enter Try.func69, Try.ntmps69
  go_wp2
  go_loopw [] (fun W => ∃ k : Nat, Rr W r s k av e a ∧ Hid (bl s k = bl s i) ∧ Hid (Kept1 r w W)) (fun W => s.size - (match W.cell? ⟨r, 1, none⟩ with | some v => (intOf v).toNat | none => 0))
  case atStart => exact ⟨i, h, rfl, Kept.refl _ w⟩
  case round =>
    obtain ⟨k, hR, hb, hK⟩ := hrel
    have c1 := hR.c0
    have c2 := hR.c1
    have f2 := hR.row.frozen 1
    have hle := hR.le
    by_cases h1 : k < s.size
    · by_cases h2 : byt s k = 32
      · have d1 : decide ((k : Int) < s.size) = true := decide_eq_true (by omega)
        have e2 : (s[k]).toNat = 32 := (byt_lt h1).trans h2
        go_wp2_with fail
        go_quiet (fail)
        go_wp2_with fail
        refine ⟨⟨k + 1, ?_, (bl_at h1 h2).symm.trans hb, Kept1.set (hK.drewN _) _ _⟩, ?_⟩
        · have := (hR.drewN nq).step (k := k + 1) (by omega)
          simpa using this
        · have hn := ((hR.drewN nq).step (k := k + 1) (by omega)).c1
          have hn' : ((wr.drewN nq).setCell ⟨r, 1, none⟩ (.int .i64 ((k : Int) + 1))).cell? ⟨r, 1, none⟩ = some (.int .i64 ((k : Int) + 1)) := by simpa using hn
          rw [c2, hn']
          simp only [intOf]
          omega
      · have d1 : decide ((k : Int) < s.size) = true := decide_eq_true (by omega)
        have e2 : ¬ (s[k]).toNat = 32 := fun e => h2 ((byt_lt h1).symm.trans e)
        go_wp2_with fail
        go_quiet (fail)
        go_wp2_with fail
        go_end0
        have e : bl s i = k := hb.symm.trans (bl_end (fun x => h2 x.2))
        exact ⟨rfl, e ▸ hR.drewN nq, Kept.drewN hK nq⟩
    · have d1 : decide ((k : Int) < s.size) = false := decide_eq_false (by omega)
      go_wp2_with fail
      go_quiet (fail)
      go_wp2_with fail
      go_end0
      have e : bl s i = k := hb.symm.trans (bl_end (fun x => h1 x.1))
      exact ⟨rfl, e ▸ hR.drewN nq, Kept.drewN hK nq⟩

/-- Does c stand here, and no error? -/
def isB (s : ByteArray) (i e c : Nat) : Bool := decide (e = 0) && stands s (bl s i) c

set_option maxHeartbeats 800000 in
theorem is_in (w : World) (r : Nat) (s : ByteArray) (i : Nat) (av : Value) (e a : Nat) (h : Rr w r s i av e a) (c : Nat) :
    Calls Try.prog 147 #[.pointer (some ⟨r, 0, none⟩), .int .u8 (c : Int)] w fun x w' => x = .returned (.bool (isB s i e c)) ∧ Rr w' r s (bl s i) av e a ∧ Kept1 r w w' := by
  have hs := h.small
  have hle := bl_le h.le
  have BL := rblanks_in w r s i av e a h
  by_cases he : e = 0
  · subst he
    by_cases h1 : bl s i < s.size
    · have d1 : decide ((bl s i : Int) < s.size) = true := decide_eq_true (by omega)
      by_cases h2 : byt s (bl s i) = c
      · have e2 : (s[bl s i]).toNat = c := (byt_lt h1).trans h2
        have hB : isB s i 0 c = true := by simp [isB, stands_true h1 h2]
        go_enter Try.func147, Try.ntmps147
        go_wp2_with (go_at_call 69; refine BL.mono ?_; rintro e w2 ⟨rfl, R2, K2⟩; have c0 := R2.c0; have c1 := R2.c1; have c3 := R2.c3)
        go_quiet (fail)
        go_wp2_with fail
        go_ret
        exact ⟨ret_bool hB.symm, R2.drewN nq, Kept.drewN K2 nq⟩
      · have e2 : ¬ (s[bl s i]).toNat = c := fun e => h2 ((byt_lt h1).symm.trans e)
        have e3 : (((s[bl s i]).toNat : Int) == (c : Int)) = false := beq_eq_false_iff_ne.2 (by omega)
        have hB : isB s i 0 c = false := by simp [isB, stands_ne h2]
        go_enter Try.func147, Try.ntmps147
        go_wp2_with (go_at_call 69; refine BL.mono ?_; rintro e w2 ⟨rfl, R2, K2⟩; have c0 := R2.c0; have c1 := R2.c1; have c3 := R2.c3)
        go_quiet (fail)
        go_wp2_with fail
        go_ret
        exact ⟨ret_bool hB.symm, R2.drewN nq, Kept.drewN K2 nq⟩
    · have d1 : decide ((bl s i : Int) < s.size) = false := decide_eq_false (by omega)
      have hB : isB s i 0 c = false := by simp [isB, stands_end h1]
      go_enter Try.func147, Try.ntmps147
      go_wp2_with (go_at_call 69; refine BL.mono ?_; rintro e w2 ⟨rfl, R2, K2⟩; have c0 := R2.c0; have c1 := R2.c1; have c3 := R2.c3)
      go_quiet (fail)
      go_wp2_with fail
      go_ret
      exact ⟨ret_bool hB.symm, R2.drewN nq, Kept.drewN K2 nq⟩
  · have d : ((e : Int) == 0) = false := beq_eq_false_iff_ne.2 (by omega)
    have hB : isB s i e c = false := by simp [isB, he]
    go_enter Try.func147, Try.ntmps147
    go_wp2_with (go_at_call 69; refine BL.mono ?_; rintro e w2 ⟨rfl, R2, K2⟩; have c0 := R2.c0; have c1 := R2.c1; have c3 := R2.c3)
    go_quiet (fail)
    go_wp2_with fail
    go_ret
    exact ⟨ret_bool hB.symm, R2.drewN nq, Kept.drewN K2 nq⟩

/-- Where it goes on then. -/
def hasI (s : ByteArray) (i e c : Nat) : Nat := if isB s i e c then bl s i + 1 else bl s i
theorem isB_lt {s : ByteArray} {i e c : Nat} (h : isB s i e c = true) : bl s i < s.size := by
  simp [isB, stands] at h
  exact h.2.1

set_option maxHeartbeats 400000 in
theorem rhas1_in (w : World) (r : Nat) (s : ByteArray) (i : Nat) (av : Value) (e a : Nat) (h : Rr w r s i av e a) (c : Nat) :
    Calls Try.prog 114 #[.pointer (some ⟨r, 0, none⟩), .int .u8 (c : Int)] w fun x w' => x = .returned (.bool (isB s i e c)) ∧ Rr w' r s (hasI s i e c) av e a ∧ Kept1 r w w' := by
  have hs := h.small
  have IS := is_in w r s i av e a h c
  cases hB : isB s i e c with
  | true =>
    rw [hB] at IS
    have hlt := isB_lt hB
    have hI : hasI s i e c = bl s i + 1 := by simp [hasI, hB]
    go_enter Try.func114, Try.ntmps114
    go_wp2_with (go_at_call 147; refine IS.mono ?_; rintro e w2 ⟨rfl, R2, K2⟩; have c1 := R2.c1; have f1 := R2.row.frozen 1)
    go_ret
    have := R2.step (k := bl s i + 1) (by omega)
    refine ⟨rfl, by rw [hI]; simpa using this, Kept1.set K2 _ _⟩
  | false =>
    rw [hB] at IS
    have hI : hasI s i e c = bl s i := by simp [hasI, hB]
    go_enter Try.func114, Try.ntmps114
    go_wp2_with (go_at_call 147; refine IS.mono ?_; rintro e w2 ⟨rfl, R2, K2⟩)
    go_ret
    exact ⟨rfl, by rw [hI]; exact R2, K2⟩

end Go.Proofs.Ytinphcnknionmaa
