/- Package term: the reader's small functions: skipBlanks, isLetter, isDigit. -/
import Derived.Test.YtjfekcjhflcnaaaFindB
namespace Go.Proofs.Ytjfekcjhflcnaaa
open Go.RowKit

/-- The byte at i; 0 behind the end. -/
def byt (s : ByteArray) (i : Nat) : Nat := if h : i < s.size then (s[i]).toNat else 0
theorem byt_lt {s : ByteArray} {i : Nat} (h : i < s.size) : (s[i]).toNat = byt s i := by simp [byt, h]

/-- Where the blanks from i on end. -/
def bl (s : ByteArray) (i : Nat) : Nat := if h : i < s.size ∧ byt s i = 32 then bl s (i + 1) else i
termination_by s.size - i
decreasing_by omega

theorem bl_at {s : ByteArray} {i : Nat} (h : i < s.size) (hb : byt s i = 32) : bl s i = bl s (i + 1) := by rw [bl]; simp [h, hb]
theorem bl_end {s : ByteArray} {i : Nat} (h : ¬ (i < s.size ∧ byt s i = 32)) : bl s i = i := by rw [bl]; simp [h]
theorem bl_ge (s : ByteArray) (i : Nat) : i ≤ bl s i := by
  induction i using bl.induct s with
  | case1 i h ih => rw [bl_at h.1 h.2]; omega
  | case2 i h => rw [bl_end h]; omega
theorem bl_le {s : ByteArray} {i : Nat} (hi : i ≤ s.size) : bl s i ≤ s.size := by
  induction i using bl.induct s with
  | case1 i h ih => rw [bl_at h.1 h.2]; exact ih (by omega)
  | case2 i h => rw [bl_end h]; exact hi

def readerC (bp : Value) (s : ByteArray) (i : Nat) (j : Nat) : Value := if j = 0 then bp else if j = 1 then .string s else .int .i64 (i : Int)

/-- A reader at block r. -/
structure Rd (w : World) (r : Nat) (bp : Value) (s : ByteArray) (i : Nat) : Prop where
  row : w.rowIs r 107 3 (readerC bp s i)
  le : i ≤ s.size
  small : s.size ≤ 400

theorem Rd.c0 {w : World} {r : Nat} {bp : Value} {s : ByteArray} {i : Nat} (h : Rd w r bp s i) : w.cell? ⟨r, 0, none⟩ = some bp := h.row.cell (by omega)
theorem Rd.c1 {w : World} {r : Nat} {bp : Value} {s : ByteArray} {i : Nat} (h : Rd w r bp s i) : w.cell? ⟨r, 1, none⟩ = some (.string s) := h.row.cell (i := 1) (by omega)
theorem Rd.c2 {w : World} {r : Nat} {bp : Value} {s : ByteArray} {i : Nat} (h : Rd w r bp s i) : w.cell? ⟨r, 2, none⟩ = some (.int .i64 (i : Int)) := h.row.cell (i := 2) (by omega)
theorem Rd.drewN {w : World} {r : Nat} {bp : Value} {s : ByteArray} {i : Nat} (h : Rd w r bp s i) (m : Nat) : Rd (w.drewN m) r bp s i := ⟨h.row, h.le, h.small⟩
theorem Rd.step {w : World} {r : Nat} {bp : Value} {s : ByteArray} {i : Nat} (h : Rd w r bp s i) {k : Nat} (hk : k ≤ s.size) : Rd (w.setCell ⟨r, 2, none⟩ (.int .i64 (k : Int))) r bp s k :=
  ⟨(h.row.set 2 _).congr (fun j hj => by
    rcases (by omega : j = 0 ∨ j = 1 ∨ j = 2) with rfl | rfl | rfl <;> simp [readerC]), hk, h.small⟩

def isLet (c : Nat) : Bool := decide (97 ≤ c ∧ c ≤ 122)
def isDig (c : Nat) : Bool := decide (48 ≤ c ∧ c ≤ 57)
theorem isLet_lt {c : Nat} (h : (c : Int) < 97) : false = isLet c := (decide_eq_false (by omega)).symm
theorem isLet_ge {c : Nat} (h : (97 : Int) ≤ c) : decide ((c : Int) ≤ 122) = isLet c := by
  unfold isLet; exact decide_eq_decide.2 (by omega)
theorem isDig_lt {c : Nat} (h : (c : Int) < 48) : false = isDig c := (decide_eq_false (by omega)).symm
theorem isDig_ge {c : Nat} (h : (48 : Int) ≤ c) : decide ((c : Int) ≤ 57) = isDig c := by
  unfold isDig; exact decide_eq_decide.2 (by omega)

set_option maxHeartbeats 400000 in
theorem letter_any (w : World) (c : Nat) :
    Calls Try.prog 162 #[.int .u8 c] w fun e w' => e = .returned (.bool (isLet c)) ∧ w = w' := by
  go_enter Try.func162, Try.ntmps162
  go_wp2
  · go_ret
    exact ⟨ret_bool (isLet_ge ‹_›), rfl⟩
  · go_ret
    exact ⟨ret_bool (isLet_lt ‹_›), rfl⟩

set_option maxHeartbeats 400000 in
theorem digit_any (w : World) (c : Nat) :
    Calls Try.prog 163 #[.int .u8 c] w fun e w' => e = .returned (.bool (isDig c)) ∧ w = w' := by
  go_enter Try.func163, Try.ntmps163
  go_wp2
  · go_ret
    exact ⟨ret_bool (isDig_ge ‹_›), rfl⟩
  · go_ret
    exact ⟨ret_bool (isDig_lt ‹_›), rfl⟩

set_option maxHeartbeats 400000 in
theorem blanks_in (w : World) (r : Nat) (bp : Value) (s : ByteArray) (i : Nat) (h : Rd w r bp s i) :
    Calls Try.prog 110 #[.pointer (some ⟨r, 0, none⟩)] w fun e w' => e = .returned (.tuple #[]) ∧ Rd w' r bp s (bl s i) ∧ Kept1 r w w' := by
  have hs := h.small
  go_enter Try.func110, Try.ntmps110
  go_wp2
  go_loopw [] (fun W => ∃ k : Nat, Rd W r bp s k ∧ Hid (bl s k = bl s i) ∧ Hid (Kept1 r w W)) (fun W => s.size - (match W.cell? ⟨r, 2, none⟩ with | some v => (intOf v).toNat | none => 0))
  case atStart => exact ⟨i, h, rfl, Kept.refl _ w⟩
  case round =>
    obtain ⟨k, hR, hb, hK⟩ := hrel
    have c1 := hR.c1
    have c2 := hR.c2
    have f2 := hR.row.frozen 2
    have hle := hR.le
    by_cases h1 : k < s.size
    · by_cases h2 : byt s k = 32
      · have d1 : decide ((k : Int) < s.size) = true := decide_eq_true (by omega)
        have e2 : (s[k]).toNat = 32 := (byt_lt h1).trans h2
        go_wp2_with fail
        go_quiet (fail)
        go_wp2_with fail
        refine ⟨⟨k + 1, ?_, (bl_at h1 h2).symm.trans hb, Kept1.set (hK.drewN _) _ _⟩, ?_⟩
        · have := (hR.drewN nq).step (k := k + 1) (by omega)
          simpa using this
        · have hn := ((hR.drewN nq).step (k := k + 1) (by omega)).c2
          have hn' : ((wr.drewN nq).setCell ⟨r, 2, none⟩ (.int .i64 ((k : Int) + 1))).cell? ⟨r, 2, none⟩ = some (.int .i64 ((k : Int) + 1)) := by simpa using hn
          rw [c2, hn']
          simp only [intOf]
          omega
      · have d1 : decide ((k : Int) < s.size) = true := decide_eq_true (by omega)
        have e2 : ¬ (s[k]).toNat = 32 := fun e => h2 ((byt_lt h1).symm.trans e)
        go_wp2_with fail
        go_quiet (fail)
        go_wp2_with fail
        go_end0
        have e : bl s i = k := hb.symm.trans (bl_end (fun x => h2 x.2))
        exact ⟨rfl, e ▸ hR.drewN nq, Kept.drewN hK nq⟩
    · have d1 : decide ((k : Int) < s.size) = false := decide_eq_false (by omega)
      go_wp2_with fail
      go_quiet (fail)
      go_wp2_with fail
      go_end0
      have e : bl s i = k := hb.symm.trans (bl_end (fun x => h1 x.1))
      exact ⟨rfl, e ▸ hR.drewN nq, Kept.drewN hK nq⟩

/-- What refuse panics with. -/
def refusalV (e p : Int) : Value := .iface 181 (.agg #[.int .i64 e, .int .i64 p])

set_option maxHeartbeats 400000 in
theorem refuse_any (w : World) (e p : Int) :
    Calls Try.prog 112 #[.int .i64 e, .int .i64 p] w fun x w' => x = .panicked [{ v := refusalV e p, recovered := false }] ∧ w = w' := by
  go_enter Try.func112, Try.ntmps112
  go_wp2
  exact ⟨rfl, rfl, rfl⟩

/-- Does c stand at i? -/
def stands (s : ByteArray) (i c : Nat) : Bool := decide (i < s.size ∧ byt s i = c)
/-- Where it goes on behind it. -/
def behind (s : ByteArray) (i c : Nat) : Nat := if stands s i c then bl s (i + 1) else i
theorem stands_true {s : ByteArray} {i c : Nat} (h : i < s.size) (hb : byt s i = c) : stands s i c = true := decide_eq_true ⟨h, hb⟩
theorem stands_ne {s : ByteArray} {i c : Nat} (hb : ¬ byt s i = c) : stands s i c = false := decide_eq_false fun x => hb x.2
theorem stands_end {s : ByteArray} {i c : Nat} (h : ¬ i < s.size) : stands s i c = false := decide_eq_false fun x => h x.1
theorem behind_true {s : ByteArray} {i c : Nat} (h : stands s i c = true) : behind s i c = bl s (i + 1) := by simp [behind, h]
theorem behind_false {s : ByteArray} {i c : Nat} (h : stands s i c = false) : behind s i c = i := by simp [behind, h]

set_option maxHeartbeats 400000 in
theorem sign_in (w : World) (r : Nat) (bp : Value) (s : ByteArray) (i : Nat) (h : Rd w r bp s i) (c : Nat) :
    Calls Try.prog 141 #[.pointer (some ⟨r, 0, none⟩), .int .u8 c] w fun e w' =>
      e = .returned (.bool (stands s i c)) ∧ Rd w' r bp s (behind s i c) ∧ Kept1 r w w' := by
  have hs := h.small
  have c1 := h.c1
  have c2 := h.c2
  have f2 := h.row.frozen 2
  have hle := h.le
  go_enter Try.func141, Try.ntmps141
  by_cases h1 : i < s.size
  · have d2 : ¬ ((i : Int) = s.size) := by omega
    by_cases h2 : byt s i = c
    · have e2 : (s[i]).toNat = c := (byt_lt h1).trans h2
      have hst := stands_true h1 h2
      go_wp2_with fail
      go_quiet (fail)
      go_wp2_with (go_at_call 110; refine (blanks_in _ _ _ _ _ (Rd.step (Rd.drewN h nq) (k := i + 1) (by omega))).mono ?_; rintro e w2 ⟨rfl, hR, hK⟩)
      go_ret
      exact ⟨ret_bool (stands_true h1 h2).symm, by rw [behind_true (stands_true h1 h2)]; exact hR, Kept.trans (Kept1.set (Kept.drewN (Kept.refl _ w) nq) _ _) hK⟩
    · have e2 : ¬ (s[i]).toNat = c := fun e => h2 ((byt_lt h1).symm.trans e)
      have e3 : (((s[i]).toNat : Int) != (c : Int)) = true := by simp; omega
      have e4 : ((i : Int) == (s.size : Int)) = false := by simp; omega
      have hst := stands_ne h2
      go_wp2_with fail
      go_quiet (fail)
      go_wp2_with fail
      go_ret
      exact ⟨ret_bool (stands_ne h2).symm, by rw [behind_false (stands_ne h2)]; exact h.drewN nq, Kept.drewN (Kept.refl _ w) nq⟩
  · have d2 : (i : Int) = s.size := by omega
    have hst : stands s i c = false := stands_end h1
    go_wp2_with fail
    go_quiet (fail)
    go_wp2_with fail
    go_ret
    exact ⟨ret_bool (stands_end h1).symm, by rw [behind_false (stands_end h1)]; exact h.drewN nq, Kept.drewN (Kept.refl _ w) nq⟩
