/- Package term: the reader's small functions: skipBlanks, isLetter, isDigit. Package term: name. Package term: the two maps' keys. Package term: the bank in memory. Package term: fits. internal/stringslite.Clone's contract at this program, by the kit's shelf; strings.Clone. Package term: add. -/
import Derived.Test.YtinphcnknionmaaG00
import Derived.Laws.Closers25b
import Derived.Maps.OwnSet
import Derived.DeepKeys4
import Derived.Shelf.LaysM
import Derived.Shelf.Strconv.Clone
import Derived.Test.YtinphcnknionmaaSFindC
namespace Go.Proofs.Ytinphcnknionmaa
open Go.RowKit

/-- The byte at i; 0 behind the end. -/
def byt (s : ByteArray) (i : Nat) : Nat := if h : i < s.size then (s[i]).toNat else 0
theorem byt_lt {s : ByteArray} {i : Nat} (h : i < s.size) : (s[i]).toNat = byt s i := by simp [byt, h]

/-- Where the blanks from i on end. -/
def bl (s : ByteArray) (i : Nat) : Nat := if h : i < s.size ∧ byt s i = 32 then bl s (i + 1) else i
termination_by s.size - i
decreasing_by omega

theorem bl_at {s : ByteArray} {i : Nat} (h : i < s.size) (hb : byt s i = 32) : bl s i = bl s (i + 1) := by rw [bl]; simp [h, hb]
theorem bl_end {s : ByteArray} {i : Nat} (h : ¬ (i < s.size ∧ byt s i = 32)) : bl s i = i := by rw [bl]; simp [h]
theorem bl_ge (s : ByteArray) (i : Nat) : i ≤ bl s i := by
  induction i using bl.induct s with
  | case1 i h ih => rw [bl_at h.1 h.2]; omega
  | case2 i h => rw [bl_end h]; omega
theorem bl_le {s : ByteArray} {i : Nat} (hi : i ≤ s.size) : bl s i ≤ s.size := by
  induction i using bl.induct s with
  | case1 i h ih => rw [bl_at h.1 h.2]; exact ih (by omega)
  | case2 i h => rw [bl_end h]; exact hi

def readerC (bp : Value) (s : ByteArray) (i : Nat) (j : Nat) : Value := if j = 0 then bp else if j = 1 then .string s else .int .i64 (i : Int)

/-- A reader at block r. -/
structure Rd (w : World) (r : Nat) (bp : Value) (s : ByteArray) (i : Nat) : Prop where
  row : w.rowIs r 107 3 (readerC bp s i)
  le : i ≤ s.size
  small : s.size ≤ 400

theorem Rd.c0 {w : World} {r : Nat} {bp : Value} {s : ByteArray} {i : Nat} (h : Rd w r bp s i) : w.cell? ⟨r, 0, none⟩ = some bp := h.row.cell (by omega)
theorem Rd.c1 {w : World} {r : Nat} {bp : Value} {s : ByteArray} {i : Nat} (h : Rd w r bp s i) : w.cell? ⟨r, 1, none⟩ = some (.string s) := h.row.cell (i := 1) (by omega)
theorem Rd.c2 {w : World} {r : Nat} {bp : Value} {s : ByteArray} {i : Nat} (h : Rd w r bp s i) : w.cell? ⟨r, 2, none⟩ = some (.int .i64 (i : Int)) := h.row.cell (i := 2) (by omega)
theorem Rd.drewN {w : World} {r : Nat} {bp : Value} {s : ByteArray} {i : Nat} (h : Rd w r bp s i) (m : Nat) : Rd (w.drewN m) r bp s i := ⟨h.row, h.le, h.small⟩
theorem Rd.step {w : World} {r : Nat} {bp : Value} {s : ByteArray} {i : Nat} (h : Rd w r bp s i) {k : Nat} (hk : k ≤ s.size) : Rd (w.setCell ⟨r, 2, none⟩ (.int .i64 (k : Int))) r bp s k :=
  ⟨(h.row.set 2 _).congr (fun j hj => by
    rcases (by omega : j = 0 ∨ j = 1 ∨ j = 2) with rfl | rfl | rfl <;> simp [readerC]), hk, h.small⟩

def isLet (c : Nat) : Bool := decide (97 ≤ c ∧ c ≤ 122)
def isDig (c : Nat) : Bool := decide (48 ≤ c ∧ c ≤ 57)
theorem isLet_lt {c : Nat} (h : (c : Int) < 97) : false = isLet c := (decide_eq_false (by omega)).symm
theorem isLet_ge {c : Nat} (h : (97 : Int) ≤ c) : decide ((c : Int) ≤ 122) = isLet c := by
  unfold isLet; exact decide_eq_decide.2 (by omega)
theorem isDig_lt {c : Nat} (h : (c : Int) < 48) : false = isDig c := (decide_eq_false (by omega)).symm
theorem isDig_ge {c : Nat} (h : (48 : Int) ≤ c) : decide ((c : Int) ≤ 57) = isDig c := by
  unfold isDig; exact decide_eq_decide.2 (by omega)

set_option maxHeartbeats 400000 in
theorem letter_any (w : World) (c : Nat) :
    Calls Try.prog 162 #[.int .u8 c] w fun e w' => e = .returned (.bool (isLet c)) ∧ w = w' := by
  go_enter Try.func162, Try.ntmps162
  go_wp2
  · go_ret
    exact ⟨ret_bool (isLet_ge ‹_›), rfl⟩
  · go_ret
    exact ⟨ret_bool (isLet_lt ‹_›), rfl⟩

set_option maxHeartbeats 400000 in
theorem digit_any (w : World) (c : Nat) :
    Calls Try.prog 163 #[.int .u8 c] w fun e w' => e = .returned (.bool (isDig c)) ∧ w = w' := by
  go_enter Try.func163, Try.ntmps163
  go_wp2
  · go_ret
    exact ⟨ret_bool (isDig_ge ‹_›), rfl⟩
  · go_ret
    exact ⟨ret_bool (isDig_lt ‹_›), rfl⟩

set_option maxHeartbeats 400000 in
theorem blanks_in (w : World) (r : Nat) (bp : Value) (s : ByteArray) (i : Nat) (h : Rd w r bp s i) :
    Calls Try.prog 110 #[.pointer (some ⟨r, 0, none⟩)] w fun e w' => e = .returned (.tuple #[]) ∧ Rd w' r bp s (bl s i) ∧ Kept1 r w w' := by
  have hs := h.small
  go_enter Try.func110, Try.ntmps110
  go_wp2
  go_loopw [] (fun W => ∃ k : Nat, Rd W r bp s k ∧ Hid (bl s k = bl s i) ∧ Hid (Kept1 r w W)) (fun W => s.size - (match W.cell? ⟨r, 2, none⟩ with | some v => (intOf v).toNat | none => 0))
  case atStart => exact ⟨i, h, rfl, Kept.refl _ w⟩
  case round =>
    obtain ⟨k, hR, hb, hK⟩ := hrel
    have c1 := hR.c1
    have c2 := hR.c2
    have f2 := hR.row.frozen 2
    have hle := hR.le
    by_cases h1 : k < s.size
    · by_cases h2 : byt s k = 32
      · have d1 : decide ((k : Int) < s.size) = true := decide_eq_true (by omega)
        have e2 : (s[k]).toNat = 32 := (byt_lt h1).trans h2
        go_wp2_with fail
        go_quiet (fail)
        go_wp2_with fail
        refine ⟨⟨k + 1, ?_, (bl_at h1 h2).symm.trans hb, Kept1.set (hK.drewN _) _ _⟩, ?_⟩
        · have := (hR.drewN nq).step (k := k + 1) (by omega)
          simpa using this
        · have hn := ((hR.drewN nq).step (k := k + 1) (by omega)).c2
          have hn' : ((wr.drewN nq).setCell ⟨r, 2, none⟩ (.int .i64 ((k : Int) + 1))).cell? ⟨r, 2, none⟩ = some (.int .i64 ((k : Int) + 1)) := by simpa using hn
          rw [c2, hn']
          simp only [intOf]
          omega
      · have d1 : decide ((k : Int) < s.size) = true := decide_eq_true (by omega)
        have e2 : ¬ (s[k]).toNat = 32 := fun e => h2 ((byt_lt h1).symm.trans e)
        go_wp2_with fail
        go_quiet (fail)
        go_wp2_with fail
        go_end0
        have e : bl s i = k := hb.symm.trans (bl_end (fun x => h2 x.2))
        exact ⟨rfl, e ▸ hR.drewN nq, Kept.drewN hK nq⟩
    · have d1 : decide ((k : Int) < s.size) = false := decide_eq_false (by omega)
      go_wp2_with fail
      go_quiet (fail)
      go_wp2_with fail
      go_end0
      have e : bl s i = k := hb.symm.trans (bl_end (fun x => h1 x.1))
      exact ⟨rfl, e ▸ hR.drewN nq, Kept.drewN hK nq⟩

/-- What refuse panics with. -/
def refusalV (e p : Int) : Value := .iface 181 (.agg #[.int .i64 e, .int .i64 p])

set_option maxHeartbeats 400000 in
theorem refuse_any (w : World) (e p : Int) :
    Calls Try.prog 112 #[.int .i64 e, .int .i64 p] w fun x w' => x = .panicked [{ v := refusalV e p, recovered := false }] ∧ w = w' := by
  go_enter Try.func112, Try.ntmps112
  go_wp2
  exact ⟨rfl, rfl, rfl⟩

/-- Does c stand at i? -/
def stands (s : ByteArray) (i c : Nat) : Bool := decide (i < s.size ∧ byt s i = c)
/-- Where it goes on behind it. -/
def behind (s : ByteArray) (i c : Nat) : Nat := if stands s i c then bl s (i + 1) else i
theorem stands_true {s : ByteArray} {i c : Nat} (h : i < s.size) (hb : byt s i = c) : stands s i c = true := decide_eq_true ⟨h, hb⟩
theorem stands_ne {s : ByteArray} {i c : Nat} (hb : ¬ byt s i = c) : stands s i c = false := decide_eq_false fun x => hb x.2
theorem stands_end {s : ByteArray} {i c : Nat} (h : ¬ i < s.size) : stands s i c = false := decide_eq_false fun x => h x.1
theorem behind_true {s : ByteArray} {i c : Nat} (h : stands s i c = true) : behind s i c = bl s (i + 1) := by simp [behind, h]
theorem behind_false {s : ByteArray} {i c : Nat} (h : stands s i c = false) : behind s i c = i := by simp [behind, h]

set_option maxHeartbeats 400000 in
theorem sign_in (w : World) (r : Nat) (bp : Value) (s : ByteArray) (i : Nat) (h : Rd w r bp s i) (c : Nat) :
    Calls Try.prog 141 #[.pointer (some ⟨r, 0, none⟩), .int .u8 c] w fun e w' =>
      e = .returned (.bool (stands s i c)) ∧ Rd w' r bp s (behind s i c) ∧ Kept1 r w w' := by
  have hs := h.small
  have c1 := h.c1
  have c2 := h.c2
  have f2 := h.row.frozen 2
  have hle := h.le
  go_enter Try.func141, Try.ntmps141
  by_cases h1 : i < s.size
  · have d2 : ¬ ((i : Int) = s.size) := by omega
    by_cases h2 : byt s i = c
    · have e2 : (s[i]).toNat = c := (byt_lt h1).trans h2
      have hst := stands_true h1 h2
      go_wp2_with fail
      go_quiet (fail)
      go_wp2_with (go_at_call 110; refine (blanks_in _ _ _ _ _ (Rd.step (Rd.drewN h nq) (k := i + 1) (by omega))).mono ?_; rintro e w2 ⟨rfl, hR, hK⟩)
      go_ret
      exact ⟨ret_bool (stands_true h1 h2).symm, by rw [behind_true (stands_true h1 h2)]; exact hR, Kept.trans (Kept1.set (Kept.drewN (Kept.refl _ w) nq) _ _) hK⟩
    · have e2 : ¬ (s[i]).toNat = c := fun e => h2 ((byt_lt h1).symm.trans e)
      have e3 : (((s[i]).toNat : Int) != (c : Int)) = true := by simp; omega
      have e4 : ((i : Int) == (s.size : Int)) = false := by simp; omega
      have hst := stands_ne h2
      go_wp2_with fail
      go_quiet (fail)
      go_wp2_with fail
      go_ret
      exact ⟨ret_bool (stands_ne h2).symm, by rw [behind_false (stands_ne h2)]; exact h.drewN nq, Kept.drewN (Kept.refl _ w) nq⟩
  · have d2 : (i : Int) = s.size := by omega
    have hst : stands s i c = false := stands_end h1
    go_wp2_with fail
    go_quiet (fail)
    go_wp2_with fail
    go_ret
    exact ⟨ret_bool (stands_end h1).symm, by rw [behind_false (stands_end h1)]; exact h.drewN nq, Kept.drewN (Kept.refl _ w) nq⟩

end Go.Proofs.Ytinphcnknionmaa

namespace Go.Proofs.Ytinphcnknionmaa
open Go.RowKit

def isNm (c : Nat) : Bool := isLet c || isDig c
/-- Where the letters and digits from i on end. -/
def nmE (s : ByteArray) (i : Nat) : Nat := if h : i < s.size ∧ isNm (byt s i) = true then nmE s (i + 1) else i
termination_by s.size - i
decreasing_by omega
theorem nmE_at {s : ByteArray} {i : Nat} (h : i < s.size) (hb : isNm (byt s i) = true) : nmE s i = nmE s (i + 1) := by rw [nmE]; simp [h, hb]
theorem nmE_end {s : ByteArray} {i : Nat} (h : ¬ (i < s.size ∧ isNm (byt s i) = true)) : nmE s i = i := by rw [nmE]; simp [h]
theorem nmE_ge (s : ByteArray) (i : Nat) : i ≤ nmE s i := by
  induction i using nmE.induct s with
  | case1 i h ih => rw [nmE_at h.1 h.2]; omega
  | case2 i h => rw [nmE_end h]; omega
theorem nmE_le {s : ByteArray} {i : Nat} (hi : i ≤ s.size) : nmE s i ≤ s.size := by
  induction i using nmE.induct s with
  | case1 i h ih => rw [nmE_at h.1 h.2]; exact ih (by omega)
  | case2 i h => rw [nmE_end h]; exact hi

/-- No name stands at i. -/
def badNm (s : ByteArray) (i : Nat) : Bool := decide (nmE s i = i) || decide (6 < nmE s i - i) || isDig (byt s i)

theorem ext_size {s : ByteArray} {i k : Nat} (h : i ≤ k) (hk : k ≤ s.size) : (s.extract i k).size = k - i := by simp [ByteArray.size_extract]; omega
theorem ext0 {s : ByteArray} {i k : Nat} (h : i < k) (hk : k ≤ s.size) (hz : 0 < (s.extract i k).size) : (s.extract i k)[0] = s[i] := by simp [ByteArray.getElem_extract]
theorem ext_nil {s : ByteArray} {i k : Nat} (h : i ≤ k) (hk : k ≤ s.size) : (s.extract i k).toList = [] ↔ i = k := by
  rw [toList_nil_iff_emptyBytes, ByteArray.extract_eq_empty_iff]; omega

def NamePost (w : World) (r : Nat) (bp : Value) (s : ByteArray) (i : Nat) (e : Ending) (w' : World) : Prop :=
  Kept1 r w w' ∧ ((badNm s i = true ∧ e = .panicked [{ v := refusalV 2 i, recovered := false }] ∧ ∃ k, Rd w' r bp s k) ∨
    (badNm s i = false ∧ e = .returned (.string (s.extract i (nmE s i))) ∧ Rd w' r bp s (bl s (nmE s i))))

set_option maxHeartbeats 2000000 in
theorem name_in (w : World) (r : Nat) (bp : Value) (s : ByteArray) (i : Nat) (h : Rd w r bp s i) :
    Calls Try.prog 140 #[.pointer (some ⟨r, 0, none⟩)] w (NamePost w r bp s i) := by
  have hs := h.small
  have c2 := h.c2
  go_enter Try.func140, Try.ntmps140
  go_wp2
  go_loopw [] (fun W => ∃ k : Nat, Rd W r bp s k ∧ Hid (nmE s k = nmE s i) ∧ Hid (Kept1 r w W)) (fun W => s.size - (match W.cell? ⟨r, 2, none⟩ with | some v => (intOf v).toNat | none => 0))
  case atStart => exact ⟨i, h, rfl, Kept.refl _ w⟩
  case round =>
    obtain ⟨k, hR, hb, hK⟩ := hrel
    have c1 := hR.c1
    clear c2
    have c2 := hR.c2
    have f2 := hR.row.frozen 2
    have hle := hR.le
    by_cases h1 : k < s.size
    · have d1 : decide ((k : Int) < s.size) = true := decide_eq_true (by omega)
      have LET : ∀ m, Calls Try.prog 162 #[.int .u8 ((s[k]).toNat : Nat)] (wr.drewN m) fun e w' => e = .returned (.bool (isLet (byt s k))) ∧ w' = wr.drewN m := fun m => (letter_any _ _).mono fun _ _ x => ⟨by rw [x.1, byt_lt h1], x.2.symm⟩
      have DIG : ∀ m, Calls Try.prog 163 #[.int .u8 ((s[k]).toNat : Nat)] (wr.drewN m) fun e w' => e = .returned (.bool (isDig (byt s k))) ∧ w' = wr.drewN m := fun m => (digit_any _ _).mono fun _ _ x => ⟨by rw [x.1, byt_lt h1], x.2.symm⟩
      cases hl : isLet (byt s k) with
      | true =>
        rw [hl] at LET
        have hn : isNm (byt s k) = true := by simp [isNm, hl]
        go_wp2_with fail
        go_quiet ((go_at_call 162; exact Calls.quiet_of_same (LET _)))
        go_wp2_with fail
        refine ⟨⟨k + 1, ?_, (nmE_at h1 hn).symm.trans hb, Kept1.set (hK.drewN _) _ _⟩, ?_⟩
        · have := (hR.drewN nq).step (k := k + 1) (by omega)
          simpa using this
        · have hn := ((hR.drewN nq).step (k := k + 1) (by omega)).c2
          have hn' : ((wr.drewN nq).setCell ⟨r, 2, none⟩ (.int .i64 ((k : Int) + 1))).cell? ⟨r, 2, none⟩ = some (.int .i64 ((k : Int) + 1)) := by simpa using hn
          rw [c2, hn']
          simp only [intOf]
          omega
      | false =>
        rw [hl] at LET
        cases hd : isDig (byt s k) with
        | true =>
          rw [hd] at DIG
          have hn : isNm (byt s k) = true := by simp [isNm, hd]
          go_wp2_with fail
          go_quiet ((first | (go_at_call 162; exact Calls.quiet_of_same (LET _)) | (go_at_call 163; exact Calls.quiet_of_same (DIG _))))
          go_wp2_with fail
          refine ⟨⟨k + 1, ?_, (nmE_at h1 hn).symm.trans hb, Kept1.set (hK.drewN _) _ _⟩, ?_⟩
          · have := (hR.drewN nq).step (k := k + 1) (by omega)
            simpa using this
          · have hn := ((hR.drewN nq).step (k := k + 1) (by omega)).c2
            have hn' : ((wr.drewN nq).setCell ⟨r, 2, none⟩ (.int .i64 ((k : Int) + 1))).cell? ⟨r, 2, none⟩ = some (.int .i64 ((k : Int) + 1)) := by simpa using hn
            rw [c2, hn']
            simp only [intOf]
            omega
        | false =>
          rw [hd] at DIG
          have hn : isNm (byt s k) = false := by simp [isNm, hl, hd]
          go_wp2_with fail
          go_quiet ((first | (go_at_call 162; exact Calls.quiet_of_same (LET _)) | (go_at_call 163; exact Calls.quiet_of_same (DIG _))))
          go_wp2_with fail
          have hE : nmE s i = k := hb.symm.trans (nmE_end (fun x => by have := x.2; rw [hn] at this; cases this))
          clear LET DIG
          have hik : i ≤ k := hE ▸ nmE_ge s i
          have c1' := (hR.drewN nq).c1
          have c2' := (hR.drewN nq).c2
          have hKn : ∀ m, Kept1 r w (wr.drewN m) := fun m => Kept.drewN hK m
          have hRn := hR.drewN
          have hz := ext_size hik hR.le
          have hnil := ext_nil hik hR.le
          clear hb hK hR
          by_cases hA : i = k
          · subst hA
            have hbad : badNm s i = true := by rw [badNm, hE]; simp
            have hn0 := hnil.2 rfl
            clear hnil
            go_quiet (fail)
            go_wp2_with (go_at_call 112; refine (refuse_any _ _ _).mono ?_; rintro e w2 ⟨rfl, rfl⟩)
            exact ⟨rfl, hKn _, Or.inl ⟨hbad, rfl, _, hRn _⟩⟩
          · have hn0 : ¬ (s.extract i k).toList = [] := fun x => hA (hnil.1 x)
            clear hnil
            have hz0 : 0 < (s.extract i k).size := by omega
            have hx0 : ∀ h : 0 < (s.extract i k).size, ((s.extract i k)[0]'h).toNat = byt s i := fun h => by rw [ext0 (by omega) hle h]; exact byt_lt (by omega)
            by_cases hB : 6 < k - i
            · have hbad : badNm s i = true := by simp [badNm, hE, hB]
              have hB' : decide ((6 : Int) < (s.extract i k).size) = true := decide_eq_true (by omega)
              have hB2 : (6 : Int) < (s.extract i k).size := by omega
              go_quiet (fail)
              go_wp2_with (go_at_call 112; refine (refuse_any _ _ _).mono ?_; rintro e w2 ⟨rfl, rfl⟩)
              exact ⟨rfl, hKn _, Or.inl ⟨hbad, rfl, _, hRn _⟩⟩
            · have hB2 : ¬ (6 : Int) < (s.extract i k).size := by omega
              cases hC : isDig (byt s i) with
              | true =>
                have hbad : badNm s i = true := by simp [badNm, hC]
                go_quiet (fail)
                have hNm : ∃ N, s.extract i k = N := ⟨_, rfl⟩
                obtain ⟨N, hNm⟩ := hNm
                rw [hNm] at hz hn0 hz0 hx0 hB2 ⊢
                go_wp2_with (first | (go_at_call 163; refine (digit_any _ _).mono ?_; rintro e w2 ⟨he, rfl⟩; rw [hC] at he; subst he) | (go_at_call 112; refine (refuse_any _ _ _).mono ?_; rintro e w2 ⟨rfl, rfl⟩))
                exact ⟨rfl, hKn _, Or.inl ⟨hbad, rfl, _, hRn _⟩⟩
              | false =>
                have hbad : badNm s i = false := by simp [badNm, hE, hC]; omega
                have hem : (s.extract i k).toList.isEmpty = false := by cases hq : (s.extract i k).toList with | nil => exact absurd hq hn0 | cons a l => rfl
                have hB3 : ¬ (6 : Int) < ((k - i : Nat) : Int) := by omega
                go_quiet (fail)
                have hNm : ∃ N, s.extract i k = N := ⟨_, rfl⟩
                obtain ⟨N, hNm⟩ := hNm
                rw [hNm] at hz hn0 hz0 hx0 hB2 hem ⊢
                go_wp2_with (first | (go_at_call 163; refine (digit_any _ _).mono ?_; rintro e w2 ⟨he, rfl⟩; rw [hC] at he; subst he) | (go_at_call 110; refine (blanks_in _ _ _ _ _ (hRn _)).mono ?_; rintro e w2 ⟨rfl, hR2, hK2⟩))
                go_ret
                refine ⟨Kept.trans (hKn _) hK2, Or.inr ⟨hbad, ?_, by rw [hE]; exact hR2⟩⟩
                rw [hE, hNm]; rfl
    · have d1 : decide ((k : Int) < s.size) = false := decide_eq_false (by omega)
      go_wp2_with fail
      go_quiet (fail)
      go_wp2_with fail
      have hE : nmE s i = k := hb.symm.trans (nmE_end (fun x => h1 x.1))
      have hik : i ≤ k := hE ▸ nmE_ge s i
      have c1' := (hR.drewN nq).c1
      have c2' := (hR.drewN nq).c2
      have hKn : ∀ m, Kept1 r w (wr.drewN m) := fun m => Kept.drewN hK m
      have hRn := hR.drewN
      have hz := ext_size hik hR.le
      have hnil := ext_nil hik hR.le
      clear hb hK hR
      by_cases hA : i = k
      · subst hA
        have hbad : badNm s i = true := by rw [badNm, hE]; simp
        have hn0 := hnil.2 rfl
        clear hnil
        go_quiet (fail)
        go_wp2_with (go_at_call 112; refine (refuse_any _ _ _).mono ?_; rintro e w2 ⟨rfl, rfl⟩)
        exact ⟨rfl, hKn _, Or.inl ⟨hbad, rfl, _, hRn _⟩⟩
      · have hn0 : ¬ (s.extract i k).toList = [] := fun x => hA (hnil.1 x)
        clear hnil
        have hz0 : 0 < (s.extract i k).size := by omega
        have hx0 : ∀ h : 0 < (s.extract i k).size, ((s.extract i k)[0]'h).toNat = byt s i := fun h => by rw [ext0 (by omega) hle h]; exact byt_lt (by omega)
        by_cases hB : 6 < k - i
        · have hbad : badNm s i = true := by simp [badNm, hE, hB]
          have hB' : decide ((6 : Int) < (s.extract i k).size) = true := decide_eq_true (by omega)
          have hB2 : (6 : Int) < (s.extract i k).size := by omega
          go_quiet (fail)
          go_wp2_with (go_at_call 112; refine (refuse_any _ _ _).mono ?_; rintro e w2 ⟨rfl, rfl⟩)
          exact ⟨rfl, hKn _, Or.inl ⟨hbad, rfl, _, hRn _⟩⟩
        · have hB2 : ¬ (6 : Int) < (s.extract i k).size := by omega
          cases hC : isDig (byt s i) with
          | true =>
            have hbad : badNm s i = true := by simp [badNm, hC]
            go_quiet (fail)
            have hNm : ∃ N, s.extract i k = N := ⟨_, rfl⟩
            obtain ⟨N, hNm⟩ := hNm
            rw [hNm] at hz hn0 hz0 hx0 hB2 ⊢
            go_wp2_with (first | (go_at_call 163; refine (digit_any _ _).mono ?_; rintro e w2 ⟨he, rfl⟩; rw [hC] at he; subst he) | (go_at_call 112; refine (refuse_any _ _ _).mono ?_; rintro e w2 ⟨rfl, rfl⟩))
            exact ⟨rfl, hKn _, Or.inl ⟨hbad, rfl, _, hRn _⟩⟩
          | false =>
            have hbad : badNm s i = false := by simp [badNm, hE, hC]; omega
            have hem : (s.extract i k).toList.isEmpty = false := by cases hq : (s.extract i k).toList with | nil => exact absurd hq hn0 | cons a l => rfl
            have hB3 : ¬ (6 : Int) < ((k - i : Nat) : Int) := by omega
            go_quiet (fail)
            have hNm : ∃ N, s.extract i k = N := ⟨_, rfl⟩
            obtain ⟨N, hNm⟩ := hNm
            rw [hNm] at hz hn0 hz0 hx0 hB2 hem ⊢
            go_wp2_with (first | (go_at_call 163; refine (digit_any _ _).mono ?_; rintro e w2 ⟨he, rfl⟩; rw [hC] at he; subst he) | (go_at_call 110; refine (blanks_in _ _ _ _ _ (hRn _)).mono ?_; rintro e w2 ⟨rfl, hR2, hK2⟩))
            go_ret
            refine ⟨Kept.trans (hKn _) hK2, Or.inr ⟨hbad, ?_, by rw [hE]; exact hR2⟩⟩
            rw [hE, hNm]; rfl

end Go.Proofs.Ytinphcnknionmaa

namespace Go.Proofs.Ytinphcnknionmaa
open Go.RowKit Go.Maps

theorem tLaid : laidOutB Try.prog = true := by kernel_rfl
theorem tRow : (124 : TypeId) < Try.prog.types.size := of_decide_eq_true (by kernel_rfl)
theorem tCells : Try.prog.cellsOf 124 = 6 := by kernel_rfl
theorem tCells4 : Try.prog.cellsOf 122 = 4 := by kernel_rfl
theorem tCellsI : Try.prog.cellsOf 3 = 1 := by kernel_rfl
theorem tCellsS : Try.prog.cellsOf 9 = 1 := by kernel_rfl
theorem tKeyType : Try.prog.keyType 124 = true := by kernel_rfl
theorem tKeyAt : Try.prog.keyTypeAt 3 124 = true := by kernel_rfl
theorem tLaw : Keyed Try.prog 124 := Keyed.of_law (deep_law_laid tLaid (m := 3) (by omega) tRow tKeyAt (by rw [Try.underlying124]))
theorem sLaw : Keyed Try.prog 9 := string_keyed Try.underlying9
theorem zeroI (w : World) : (zeroValue 3).run Try.prog w = .ok (.int .i64 0) w := by kernel_rfl

/-- A term of a bank. -/
structure Tm where
  name : ByteArray
  args : List Nat
deriving DecidableEq

/-- Arg i as the program keeps it: 0 behind the last one. -/
def Tm.arg (t : Tm) (i : Nat) : Nat := t.args.getD i 0

def entryL (t : Tm) : List Value := [.string t.name, .int .i64 (t.args.length : Int), .int .i64 (t.arg 0 : Int), .int .i64 (t.arg 1 : Int), .int .i64 (t.arg 2 : Int), .int .i64 (t.arg 3 : Int)]
def entryV (t : Tm) : Value := .agg (entryL t).toArray

structure Tm.ok (t : Tm) : Prop where
  name : t.name.size ≤ 6
  args : t.args.length ≤ 4
  small : ∀ a ∈ t.args, a < 1000

theorem Tm.ok.arg {t : Tm} (h : t.ok) (i : Nat) : t.arg i < 1000 := by
  unfold Tm.arg
  rw [List.getD_eq_getElem?_getD]
  cases e : t.args[i]? with
  | none => simp
  | some a => simpa using h.small a (List.mem_of_getElem? e)

theorem wf64 {a : Nat} (h : a < 100000) : (Lit.int .i64 (a : Int)).wf = true := WalkArith.wf_i64 (by omega)

theorem entry_formed (t : Tm) : (entryV t).formed Try.prog 124 = true := by simp [entryV, entryL, Value.formed, Try.underlying124, tCells]

theorem entry_key (t : Tm) (h : t.ok) : ∃ kl, keyOf Try.prog 124 (entryV t) = some kl := by
  have h0 : t.name.size ≤ maxLen := Nat.le_trans h.name (by decide)
  have h1 : (Lit.int .i64 (t.args.length : Int)).wf = true := wf64 (by have := h.args; omega)
  have g0 : (Lit.int .i64 (t.arg 0 : Int)).wf = true := wf64 (by have := h.arg 0; omega)
  have g1 : (Lit.int .i64 (t.arg 1 : Int)).wf = true := wf64 (by have := h.arg 1; omega)
  have g2 : (Lit.int .i64 (t.arg 2 : Int)).wf = true := wf64 (by have := h.arg 2; omega)
  have g3 : (Lit.int .i64 (t.arg 3 : Int)).wf = true := wf64 (by have := h.arg 3; omega)
  unfold keyOf
  rw [Try.underlying124]
  simp only [tKeyType, entry_formed]
  obtain ⟨m, hm⟩ : ∃ m, Try.prog.types.size + 1 = m + 3 := ⟨Try.prog.types.size - 2, by have h9 := tRow; generalize Try.prog.types.size = z at h9 ⊢; exact (by have h8 : 3 ≤ z := Nat.le_trans (by decide) (Nat.le_of_lt h9); omega)⟩
  rw [hm]
  have hr : List.range 4 = [0, 1, 2, 3] := rfl
  simp [Program.keyLits, Try.underlying124, Try.underlying122, Try.underlying3, Try.underlying9, tCells, tCells4, tCellsI, tCellsS, entryV, entryL, Value.cells, hr, h0, h1, g0, g1, g2, g3]

end Go.Proofs.Ytinphcnknionmaa

namespace Go.Proofs.Ytinphcnknionmaa
open Go.RowKit Go.Maps

/-- A map of numbers, as tight as it is. -/
def mapIs (w : World) (k : TypeId) (b : Nat) (D : DataW Unit) : Prop := w.ownsMap Try.prog k (plainElem Try.prog 3) b (Maps.size D) D

theorem mapIs_of {w : World} {k : TypeId} {b n : Nat} {D : DataW Unit} (h : w.ownsMap Try.prog k (plainElem Try.prog 3) b n D) : mapIs w k b D := by
  obtain ⟨es, clock, hb, F, hs, rfl⟩ := h
  exact ⟨es, clock, hb, F, by simp [Maps.size, length_sorted], rfl⟩

/-- What a term reads as in the map of numbers. -/
noncomputable def ekey (t : Tm) : Lit := (keyOf Try.prog 124 (entryV t)).getD (.bool false)
theorem ekey_of {t : Tm} (h : t.ok) : keyOf Try.prog 124 (entryV t) = some (ekey t) := by
  obtain ⟨kl, hk⟩ := entry_key t h
  simp [ekey, hk]

theorem args_ext {a b : List Nat} (hl : a.length = b.length) (h4 : a.length ≤ 4) (h : ∀ i, i < 4 → a.getD i 0 = b.getD i 0) : a = b := by
  apply List.ext_getElem hl
  intro i h1 h2
  have := h i (by omega)
  rw [List.getD_eq_getElem?_getD, List.getD_eq_getElem?_getD, List.getElem?_eq_getElem h1, List.getElem?_eq_getElem h2] at this
  simpa using this

theorem entryV_inj {t u : Tm} (ht : t.ok) (h : entryV t = entryV u) : t = u := by
  obtain ⟨n, a⟩ := t
  obtain ⟨m, b⟩ := u
  simp [entryV, entryL, Tm.arg] at h
  obtain ⟨h0, h1, h2, h3, h4, h5⟩ := h
  have hl : a.length = b.length := by omega
  have : a = b := args_ext hl ht.args (fun i hi => by
    rcases (by omega : i = 0 ∨ i = 1 ∨ i = 2 ∨ i = 3) with rfl | rfl | rfl | rfl <;> simp only [List.getD_eq_getElem?_getD] <;> omega)
  rw [h0, this]

theorem ekey_inj {t u : Tm} (ht : t.ok) (hu : u.ok) (h : ekey t = ekey u) : t = u :=
  entryV_inj ht (tLaw.inj (ekey_of ht) (by rw [h]; exact ekey_of hu))

def skey (n : ByteArray) : Lit := .string n.data.toList
theorem skey_of {n : ByteArray} (h : n.size ≤ 6) : keyOf Try.prog 9 (.string n) = some (skey n) := WideMaps.keyOf_string_mk Try.underlying9 (Nat.le_trans h (by decide))
theorem skey_inj {n m : ByteArray} (h : skey n = skey m) : n = m := WideShapes.bytes_inj (by simpa [skey] using h)

/-- The number of a term; of a name's first term. -/
def nix (l : List Tm) (t : Tm) : Option Nat := l.findIdx? (fun x => decide (x = t))
def fst (l : List Tm) (n : ByteArray) : Option Nat := l.findIdx? (fun x => decide (x.name = n))

/-- Is term i the first one of its name? How many are? -/
def isF (l : List Tm) (i : Nat) : Bool := match l[i]? with
  | some t => decide (fst l t.name = some i)
  | none => false
def cntF (l : List Tm) : Nat := ((List.range l.length).filter (isF l)).length
theorem cntF_le (l : List Tm) : cntF l ≤ l.length := by
  have := List.length_filter_le (isF l) (List.range l.length)
  simpa [cntF] using this

/-- A map says at a key what o says. -/
def Says (D : DataW Unit) (kl : Lit) (o : Option Nat) : Prop := Maps.has D kl = o.isSome ∧ D.atKey kl (.lit (.int .i64 0)) = .lit (.int .i64 ((o.getD 0 : Nat) : Int))

theorem Says.put_same {D : DataW Unit} {kl : Lit} (hD : IsMap D) (hk : WideAt.IsKeyLit kl) (n : Nat) : Says (D.put kl (.lit (.int .i64 (n : Int)))) kl (some n) :=
  ⟨has_put_same hD hk _, atKey_put_same hD hk _ _⟩
theorem Says.put_other {D : DataW Unit} {kl kl' : Lit} {o : Option Nat} (h : Says D kl' o) (hne : kl' ≠ kl) (d : DataW Unit) : Says (D.put kl d) kl' o :=
  ⟨by rw [has_put_other hne]; exact h.1, by rw [atKey_put_other hne]; exact h.2⟩
theorem Says.del_same {D : DataW Unit} {kl : Lit} : Says (D.del kl) kl none := ⟨has_del_same, atKey_del_same _⟩
theorem Says.del_other {D : DataW Unit} {kl kl' : Lit} {o : Option Nat} (h : Says D kl' o) (hne : kl' ≠ kl) : Says (D.del kl) kl' o :=
  ⟨by rw [has_del_other hne]; exact h.1, by rw [atKey_del_other hne]; exact h.2⟩

def bankC (ev : Value) (nb fb : Nat) (j : Nat) : Value := if j = 0 then ev else if j = 1 then .map (some nb) else .map (some fb)

/-- A bank at block p: its row of entries, and two maps. -/
structure Bk (w : World) (base p : Nat) (ev : Value) (nb fb : Nat) (l : List Tm) : Prop where
  bank : w.rowIs p 105 3 (bankC ev nb fb)
  rows : w.ownsRow base 124 6 ev l.length (l.flatMap entryL)
  nums : ∃ D, mapIs w 124 nb D ∧ Maps.size D = l.length ∧ ∀ t : Tm, t.ok → Says D (ekey t) (nix l t)
  fsts : ∃ D, mapIs w 9 fb D ∧ Maps.size D = cntF l ∧ ∀ n : ByteArray, n.size ≤ 6 → Says D (skey n) (fst l n)
  oks : ∀ t ∈ l, t.ok
  nodup : l.Nodup
  pn : p ≠ nb
  pf : p ≠ fb
  nf : nb ≠ fb
  ep : ev.ownBlock ≠ some p
  en : ev.ownBlock ≠ some nb
  ef : ev.ownBlock ≠ some fb
  bp : base ≤ p
  bn : base ≤ nb
  bf : base ≤ fb
  small : l.length ≤ 1000

theorem Bk.c0 {w : World} {base p : Nat} {ev : Value} {nb fb : Nat} {l : List Tm} (h : Bk w base p ev nb fb l) : w.cell? ⟨p, 0, none⟩ = some ev := h.bank.cell (by omega)
theorem Bk.c1 {w : World} {base p : Nat} {ev : Value} {nb fb : Nat} {l : List Tm} (h : Bk w base p ev nb fb l) : w.cell? ⟨p, 1, none⟩ = some (.map (some nb)) := h.bank.cell (i := 1) (by omega)
theorem Bk.c2 {w : World} {base p : Nat} {ev : Value} {nb fb : Nat} {l : List Tm} (h : Bk w base p ev nb fb l) : w.cell? ⟨p, 2, none⟩ = some (.map (some fb)) := h.bank.cell (i := 2) (by omega)
theorem Bk.drewN {w : World} {base p : Nat} {ev : Value} {nb fb : Nat} {l : List Tm} (h : Bk w base p ev nb fb l) (m : Nat) : Bk (w.drewN m) base p ev nb fb l :=
  ⟨h.bank, h.rows, h.nums, h.fsts, h.oks, h.nodup, h.pn, h.pf, h.nf, h.ep, h.en, h.ef, h.bp, h.bn, h.bf, h.small⟩
theorem Bk.eform {w : World} {base p : Nat} {ev : Value} {nb fb : Nat} {l : List Tm} (h : Bk w base p ev nb fb l) : ∃ a cap, ev = .slice a l.length cap := by
  rcases h.rows.2 with ⟨rfl, h0⟩ | ⟨b, cap, cur, rfl, _⟩
  · rw [h0]; exact ⟨none, 0, rfl⟩
  · exact ⟨_, cap, rfl⟩

theorem Bk.grown {w w' : World} {base p : Nat} {ev : Value} {nb fb : Nat} {l : List Tm} {row : Option Nat} (h : Bk w base p ev nb fb l) (K : w.grownBy w' row) (hp : some p ≠ row) (hn : some nb ≠ row) (hf : some fb ≠ row) (he : row = none ∨ ev.ownBlock ≠ row) : Bk w' base p ev nb fb l := by
  obtain ⟨Dn, n1, n2, n3⟩ := h.nums
  obtain ⟨Df, f1, f2, f3⟩ := h.fsts
  exact ⟨h.bank.of_block (K.block p h.bank.lt hp), h.rows.kept K (he.elim (fun e => e ▸ Decidable.em (ev.ownBlock = none)) Or.inr), ⟨Dn, World.ownsMap.kept n1 K hn, n2, n3⟩, ⟨Df, World.ownsMap.kept f1 K hf, f2, f3⟩, h.oks, h.nodup, h.pn, h.pf, h.nf, h.ep, h.en, h.ef, h.bp, h.bn, h.bf, h.small⟩

abbrev Kept0 (w w' : World) : Prop := Kept (fun _ => False) w w'
theorem Kept0.grownBy {w w' : World} (h : Kept0 w w') : w.grownBy w' none := ⟨h.os, h.tape, h.output, h.size, fun k hk _ => h.block k hk (fun e => e)⟩
theorem Bk.kept0 {w w' : World} {base p : Nat} {ev : Value} {nb fb : Nat} {l : List Tm} (h : Bk w base p ev nb fb l) (K : Kept0 w w') : Bk w' base p ev nb fb l :=
  h.grown K.grownBy (by simp) (by simp) (by simp) (Or.inl rfl)
theorem Bk.kept1 {w w' : World} {base p : Nat} {ev : Value} {nb fb : Nat} {l : List Tm} {x : Nat} (h : Bk w base p ev nb fb l) (K : Kept1 x w w') (hp : p ≠ x) (hn : nb ≠ x) (hf : fb ≠ x) (he : ev.ownBlock ≠ some x) : Bk w' base p ev nb fb l :=
  h.grown K.grownBy (by simpa using hp) (by simpa using hn) (by simpa using hf) (Or.inr he)

/-- 'v, ok := firsts[n]', 'numbers[e]', 'firsts[n]'. -/
theorem Says.look {w : World} {k t : TypeId} {b : Nat} {D : DataW Unit} {key : Value} {kl : Lit} {o : Option Nat} (h : mapIs w k b D) (S : Says D kl o) (K : Keyed Try.prog k) (ht : Try.prog.underlying t = some (.map k 3)) (hkey : keyOf Try.prog k key = some kl) :
    (Instr.lookup t (.map (some b)) key true).run Try.prog w = .ok (.tuple #[.int .i64 ((o.getD 0 : Nat) : Int), .bool o.isSome]) w := by
  obtain ⟨v, ps, hrun, hv⟩ := World.ownsMap.look_ok h K ht (zeroI w) (plainElem_int Try.underlying3 (by decide)) hkey
  rw [S.2] at hv
  obtain ⟨c, rfl, hc, _⟩ := plainElem_int_inv Try.underlying3 hv
  have hc' := congrArg Prod.fst hc
  simp at hc'
  rw [hrun, S.1, hc']

theorem Bk.lookF {w : World} {base p : Nat} {ev : Value} {nb fb : Nat} {l : List Tm} (h : Bk w base p ev nb fb l) {n : ByteArray} (hn : n.size ≤ 6) :
    (Instr.lookup 102 (.map (some fb)) (.string n) true).run Try.prog w = .ok (.tuple #[.int .i64 (((fst l n).getD 0 : Nat) : Int), .bool (fst l n).isSome]) w := by
  obtain ⟨D, f1, _, f3⟩ := h.fsts
  exact (f3 n hn).look f1 sLaw Try.underlying102 (skey_of hn)
theorem Bk.lookN {w : World} {base p : Nat} {ev : Value} {nb fb : Nat} {l : List Tm} (h : Bk w base p ev nb fb l) {t : Tm} (ht : t.ok) :
    (Instr.lookup 101 (.map (some nb)) (entryV t) true).run Try.prog w = .ok (.tuple #[.int .i64 (((nix l t).getD 0 : Nat) : Int), .bool (nix l t).isSome]) w := by
  obtain ⟨D, f1, _, f3⟩ := h.nums
  exact (f3 t ht).look f1 tLaw Try.underlying101 (ekey_of ht)

/-- The entry's cells in the row. -/
theorem flat_getElem (l : List Tm) (i j : Nat) (hj : j < 6) : (l.flatMap entryL)[i * 6 + j]? = (l[i]?).bind (fun t => (entryL t)[j]?) := by
  induction l generalizing i with
  | nil => simp
  | cons t l ih =>
    cases i with
    | zero => rcases (by omega : j = 0 ∨ j = 1 ∨ j = 2 ∨ j = 3 ∨ j = 4 ∨ j = 5) with rfl | rfl | rfl | rfl | rfl | rfl <;> simp [entryL]
    | succ i =>
      have e : (i + 1) * 6 + j = 6 + (i * 6 + j) := by omega
      simp [List.flatMap_cons, e]
      rw [List.getElem?_append_right (by simp [entryL])]
      simpa [entryL] using ih i

theorem Bk.at {w : World} {base p : Nat} {ev : Value} {nb fb : Nat} {l : List Tm} (h : Bk w base p ev nb fb l) {i : Nat} {t : Tm} (hi : l[i]? = some t) :
    ∃ g cap, ev = .slice (some ⟨g, 0, none⟩) l.length cap ∧ ∀ j u, (entryL t)[j]? = some u → w.cell? ⟨g, i * 6 + j, none⟩ = some u := by
  have hlt : i < l.length := (List.getElem?_eq_some_iff.1 hi).1
  rcases h.rows.2 with ⟨e, h0⟩ | ⟨b, cap, cur, e, _⟩
  · omega
  · refine ⟨b, cap, e, fun j u hj => ?_⟩
    have hj6 : j < 6 := by have := (List.getElem?_eq_some_iff.1 hj).1; simpa [entryL] using this
    have := h.rows.cells (g := b) (by rw [e]; rfl) (i * 6 + j) u (by rw [flat_getElem l i j hj6, hi]; exact hj)
    simp [Addr.add] at this
    split at this
    · next e0 => rw [e0.1, e0.2]; exact this
    · exact this

set_option maxHeartbeats 400000 in
theorem size_in (w : World) (base p : Nat) (ev : Value) (nb fb : Nat) (l : List Tm) (h : Bk w base p ev nb fb l) :
    Calls Try.prog 21 #[.pointer (some ⟨p, 0, none⟩)] w fun e w' => e = .returned (.int .i64 (l.length : Int)) ∧ w = w' := by
  obtain ⟨a, cap, rfl⟩ := h.eform
  have c0 := h.c0
  have hs := h.small
  clear h
  go_enter Try.func21, Try.ntmps21
  go_wp2
  go_ret
  exact ⟨rfl, rfl⟩

set_option maxHeartbeats 400000 in
theorem thas_in (w : World) (base p : Nat) (ev : Value) (nb fb : Nat) (l : List Tm) (h : Bk w base p ev nb fb l) (a : Int) :
    Calls Try.prog 72 #[.pointer (some ⟨p, 0, none⟩), .int .i64 a] w fun e w' => e = .returned (.bool (inB l.length a)) ∧ w = w' := by
  obtain ⟨x, cap, rfl⟩ := h.eform
  have c0 := h.c0
  have hs := h.small
  clear h
  go_enter Try.func72, Try.ntmps72
  go_wp2
  · go_ret
    exact ⟨ret_bool (inB_ge ‹_›), rfl⟩
  · go_ret
    exact ⟨ret_bool (inB_lt ‹_›), rfl⟩

end Go.Proofs.Ytinphcnknionmaa

namespace Go.Proofs.Ytinphcnknionmaa
open Go.RowKit Go.Maps

def fitsB (l : List Tm) (t : Tm) : Bool := match fst l t.name with
  | none => true
  | some i => match l[i]? with
    | none => true
    | some u => decide (u.args.length = t.args.length)

theorem fst_some {l : List Tm} {n : ByteArray} {i : Nat} (h : fst l n = some i) : ∃ u, l[i]? = some u ∧ u.name = n := by
  obtain ⟨hi, hp, _⟩ := List.findIdx?_eq_some_iff_getElem.1 h
  exact ⟨l[i], List.getElem?_eq_getElem hi, of_decide_eq_true hp⟩

/-- The box of an entry. -/
theorem boxed (w : World) (t : Tm) : ∀ j u, (entryL t)[j]? = some u → (w.alloc (.cells (entryL t).toArray 124)).cell? ⟨w.heap.size, j, none⟩ = some u := by
  intro j u hj
  rw [World.cell?_alloc_at _ _ _ _ rfl, List.getElem?_toArray]
  exact hj

set_option maxHeartbeats 400000 in
theorem fits_in (w : World) (base p : Nat) (ev : Value) (nb fb : Nat) (l : List Tm) (h : Bk w base p ev nb fb l) (t : Tm) (ht : t.ok) :
    Calls Try.prog 143 #[.pointer (some ⟨p, 0, none⟩), entryV t] w fun e w' => e = .returned (.bool (fitsB l t)) ∧ Bk w' base p ev nb fb l ∧ Kept0 w w' := by
  have c0 := h.c0
  have c2 := h.c2
  have b0 := boxed w t 0 _ rfl
  have b1 := boxed w t 1 _ rfl
  unfold entryV entryL
  unfold entryL at b0 b1
  go_enter Try.func143, Try.ntmps143
  go_wp2_with fail
  generalize hw1 : w.alloc (Obj.cells #[.string t.name, .int .i64 (t.args.length : Int), .int .i64 (t.arg 0 : Int), .int .i64 (t.arg 1 : Int), .int .i64 (t.arg 2 : Int), .int .i64 (t.arg 3 : Int)] 124) = w1 at b0 b1 ⊢
  have K1 : Kept0 w w1 := hw1 ▸ Kept.alloc (Kept.refl _ w) _
  have H1 := h.kept0 K1
  have c0 := H1.c0
  have c2 := H1.c2
  have LF := fun m => (H1.drewN m).lookF ht.name
  cases hf : fst l t.name with
  | none =>
    rw [hf] at LF
    simp only [Option.getD_none, Option.isSome_none] at LF
    have hB : fitsB l t = true := by simp [fitsB, hf]
    go_quiet (fail)
    go_wp2_with fail
    go_quiet (fail)
    go_wp2_with fail
    go_ret
    exact ⟨ret_bool hB.symm, (H1.drewN _).drewN _, (Kept.drewN K1 _).drewN _⟩
  | some i =>
    rw [hf] at LF
    simp only [Option.getD_some, Option.isSome_some] at LF
    obtain ⟨u, hu, hun⟩ := fst_some hf
    have hil : i < l.length := (List.getElem?_eq_some_iff.1 hu).1
    have hsm := h.small
    have hB : fitsB l t = decide (u.args.length = t.args.length) := by simp [fitsB, hf, hu]
    obtain ⟨g, cap, rfl, hg⟩ := H1.at hu
    have g1 := hg 1 _ rfl
    go_quiet (fail)
    go_wp2_with fail
    go_quiet (fail)
    go_wp2_with fail
    go_ret
    refine ⟨ret_bool ?_, (H1.drewN _).drewN _, (Kept.drewN K1 _).drewN _⟩
    rw [hB, Bool.eq_iff_iff]
    simp
    omega

end Go.Proofs.Ytinphcnknionmaa

namespace Go.Proofs
open Go.Shelf
def Try.laysM316_ren : Go.Shelf.Ren := ⟨fun | 316 => 180 | n => n, fun | 9 => 9 | 3 => 3 | 4 => 4 | 37 => 117 | 0 => 0 | 127 => 191 | 5 => 5 | n => n, fun | n => n⟩
theorem Try.laysM316 : Go.Proofs.LaysM.n316 Try.prog Try.laysM316_ren := {
  mixed := by kernel_rfl
  f316 := Try.func180.trans (congrArg some (by kernel_rfl))
  t0 := Try.underlying0
  a0 := Try.isAgg0
  z0 := Try.sizeOf0
  v0 := Try.zeroValue0
  t3 := Try.underlying3
  a3 := Try.isAgg3
  z3 := Try.sizeOf3
  v3 := Try.zeroValue3
  t4 := Try.underlying4
  a4 := Try.isAgg4
  z4 := Try.sizeOf4
  v4 := Try.zeroValue4
  t9 := Try.underlying9
  a9 := Try.isAgg9
  z9 := Try.sizeOf9
  v9 := Try.zeroValue9
  t37 := Try.underlying117
  a37 := Try.isAgg117
  z37 := Try.sizeOf117
  v37 := Try.zeroValue117
  t127 := Try.underlying191
  a127 := Try.isAgg191
  z127 := Try.sizeOf191
  v127 := Try.zeroValue191
  t5 := Try.underlying5
  a5 := Try.isAgg5
  z5 := Try.sizeOf5
  v5 := Try.zeroValue5
  i0 := by kernel_rfl
  i3 := by kernel_rfl
  i4 := by kernel_rfl
  i5 := by kernel_rfl
  i9 := by kernel_rfl
  i37 := by kernel_rfl
  i127 := by kernel_rfl }
end Go.Proofs
namespace Go.Proofs.Ytinphcnknionmaa
open Go.RowKit
theorem slClone_any (s : ByteArray) (w : World) (h : s.size ≤ 6) :
    Calls Try.prog 180 #[.string s] w fun e w' => e = .returned (.string s) ∧ Below w.heap.size w w' := Any.stringslite_Clone Try.laysM316 s w (by omega)

theorem Below.kept0 {w w' : World} (h : Below w.heap.size w w') : Kept (fun _ => False) w w' := ⟨h.os, h.tape, h.output, h.size, fun k hk _ => h.block k hk⟩

set_option maxHeartbeats 400000 in
theorem clone_any (s : ByteArray) (w : World) (h : s.size ≤ 6) :
    Calls Try.prog 164 #[.string s] w fun e w' => e = .returned (.string s) ∧ Kept (fun _ => False) w w' := by
  go_enter Try.func164, Try.ntmps164
  go_wp2_with (go_at_call 180; refine (slClone_any _ _ h).mono ?_; rintro e w2 ⟨rfl, hb⟩)
  go_ret
  exact ⟨rfl, Below.kept0 hb⟩

end Go.Proofs.Ytinphcnknionmaa

namespace Go.Proofs.Ytinphcnknionmaa
open Go.RowKit Go.Maps

theorem nix_snoc (l : List Tm) (t u : Tm) : nix (l ++ [t]) u = match nix l u with
    | some i => some i
    | none => if t = u then some l.length else none := by
  unfold nix
  rw [List.findIdx?_append]
  cases h : List.findIdx? (fun x => decide (x = u)) l with
  | some i => rfl
  | none => by_cases e : t = u <;> simp [List.findIdx?_cons, e]

theorem fst_snoc (l : List Tm) (t : Tm) (n : ByteArray) : fst (l ++ [t]) n = match fst l n with
    | some i => some i
    | none => if t.name = n then some l.length else none := by
  unfold fst
  rw [List.findIdx?_append]
  cases h : List.findIdx? (fun x => decide (x.name = n)) l with
  | some i => rfl
  | none => by_cases e : t.name = n <;> simp [List.findIdx?_cons, e]

theorem fst_mem {l : List Tm} {t : Tm} (h : t ∈ l) : ∃ i, fst l t.name = some i := by
  cases hf : fst l t.name with
  | some i => exact ⟨i, rfl⟩
  | none =>
    have := List.findIdx?_eq_none_iff.1 hf t h
    simp at this
theorem isF_snoc (l : List Tm) (t : Tm) {i : Nat} (hi : i < l.length) : isF (l ++ [t]) i = isF l i := by
  unfold isF
  rw [List.getElem?_append_left hi, List.getElem?_eq_getElem hi]
  obtain ⟨k, hk⟩ := fst_mem (List.getElem_mem hi)
  simp only [fst_snoc, hk]
theorem isF_last (l : List Tm) (t : Tm) : isF (l ++ [t]) l.length = (fst l t.name).isNone := by
  unfold isF
  rw [List.getElem?_append_right (Nat.le_refl _)]
  simp only [Nat.sub_self, List.getElem?_cons_zero, fst_snoc]
  cases hf : fst l t.name with
  | none => simp
  | some i =>
    have hlt : i < l.length := (List.findIdx?_eq_some_iff_getElem.1 hf).1
    simp
    omega
theorem cntF_snoc (l : List Tm) (t : Tm) : cntF (l ++ [t]) = cntF l + (if (fst l t.name).isNone then 1 else 0) := by
  unfold cntF
  rw [List.length_append, List.length_singleton, List.range_succ, List.filter_append, List.length_append]
  have e : (List.range l.length).filter (isF (l ++ [t])) = (List.range l.length).filter (isF l) := List.filter_congr (fun i hi => isF_snoc l t (List.mem_range.1 hi))
  rw [e]
  simp only [List.filter_cons, isF_last, List.filter_nil]
  split <;> simp

theorem nix_none {l : List Tm} {t : Tm} (h : nix l t = none) : t ∉ l := by
  intro hm
  have := List.findIdx?_eq_none_iff.1 h t hm
  simp at this

theorem ekey_lit {t : Tm} (ht : t.ok) : ∃ k, ekey t = k ∧ WideAt.IsKeyLit k := by
  have h := ekey_of ht
  generalize ekey t = k at h
  exact ⟨k, rfl, tLaw.key h⟩
theorem skey_lit {n : ByteArray} (h : n.size ≤ 6) : WideAt.IsKeyLit (skey n) := by
  have h := skey_of h
  generalize skey n = k at h
  exact sLaw.key h

theorem nums_snoc {D : DataW Unit} {l : List Tm} {t : Tm} (h : ∀ u : Tm, u.ok → Says D (ekey u) (nix l u)) (hD : IsMap D) (ht : t.ok) (hn : nix l t = none) :
    ∀ u : Tm, u.ok → Says (D.put (ekey t) (.lit (.int .i64 (l.length : Int)))) (ekey u) (nix (l ++ [t]) u) := by
  intro u hu
  by_cases e : t = u
  · subst e
    rw [nix_snoc, hn]
    simp only [if_true]
    obtain ⟨kk, e, hk⟩ := ekey_lit ht
    rw [e]
    exact Says.put_same hD hk l.length
  · have e1 : nix (l ++ [t]) u = nix l u := by
      rw [nix_snoc]
      cases nix l u <;> simp [e]
    rw [e1]
    exact (h u hu).put_other (fun x => e (ekey_inj hu ht x).symm) _

theorem fsts_snoc {D : DataW Unit} {l : List Tm} {t : Tm} (h : ∀ n : ByteArray, n.size ≤ 6 → Says D (skey n) (fst l n)) (hD : IsMap D) (ht : t.ok) (hn : fst l t.name = none) :
    ∀ n : ByteArray, n.size ≤ 6 → Says (D.put (skey t.name) (.lit (.int .i64 (l.length : Int)))) (skey n) (fst (l ++ [t]) n) := by
  intro n hz
  by_cases e : t.name = n
  · subst e
    rw [fst_snoc, hn]
    simp only [if_true]
    exact Says.put_same hD (skey_lit ht.name) l.length
  · have e1 : fst (l ++ [t]) n = fst l n := by
      rw [fst_snoc]
      cases fst l n <;> simp [e]
    rw [e1]
    exact (h n hz).put_other (fun x => e (skey_inj x).symm) _

theorem fsts_kept {D : DataW Unit} {l : List Tm} {t : Tm} (h : ∀ n : ByteArray, n.size ≤ 6 → Says D (skey n) (fst l n)) {i : Nat} (hn : fst l t.name = some i) :
    ∀ n : ByteArray, n.size ≤ 6 → Says D (skey n) (fst (l ++ [t]) n) := by
  intro n hz
  have e1 : fst (l ++ [t]) n = fst l n := by
    rw [fst_snoc]
    cases hf : fst l n with
    | some i => rfl
    | none =>
      have : ¬ t.name = n := fun e => by rw [e] at hn; rw [hn] at hf; cases hf
      simp [this]
  rw [e1]
  exact h n hz

/-- What add makes of a bank; the number that it answers. -/
def addL (l : List Tm) (t : Tm) : List Tm := match nix l t with
  | some _ => l
  | none => l ++ [t]
def addN (l : List Tm) (t : Tm) : Nat := (nix l t).getD l.length

def BFoot (p : Nat) (ev : Value) (nb fb k : Nat) : Prop := k = p ∨ k = nb ∨ k = fb ∨ ev.ownBlock = some k

set_option maxHeartbeats 400000 in
theorem add_old (w : World) (base p : Nat) (ev : Value) (nb fb : Nat) (l : List Tm) (h : Bk w base p ev nb fb l) (t : Tm) (ht : t.ok) (i : Nat) (hi : nix l t = some i) :
    Calls Try.prog 144 #[.pointer (some ⟨p, 0, none⟩), entryV t] w fun e w' => e = .returned (.int .i64 (i : Int)) ∧ Bk w' base p ev nb fb l ∧ Kept0 w w' := by
  unfold entryV entryL
  have W1 := boxed w t
  unfold entryL at W1
  have b0 := W1 0 _ rfl
  have b1 := W1 1 _ rfl
  have b2 := W1 2 _ rfl
  have b3 := W1 3 _ rfl
  have b4 := W1 4 _ rfl
  have b5 := W1 5 _ rfl
  clear W1
  go_enter Try.func144, Try.ntmps144
  go_wp2_with fail
  generalize hw1 : w.alloc (Obj.cells #[.string t.name, .int .i64 (t.args.length : Int), .int .i64 (t.arg 0 : Int), .int .i64 (t.arg 1 : Int), .int .i64 (t.arg 2 : Int), .int .i64 (t.arg 3 : Int)] 124) = w1 at b0 b1 b2 b3 b4 b5 ⊢
  have K1 : Kept0 w w1 := hw1 ▸ Kept.alloc (Kept.refl _ w) _
  have H1 := h.kept0 K1
  have c0 := H1.c0
  have c1 := H1.c1
  have LN := fun m => (H1.drewN m).lookN ht
  rw [hi] at LN
  simp only [Option.getD_some, Option.isSome_some, entryV, entryL] at LN
  go_quiet (fail)
  go_wp2_with fail
  go_ret
  exact ⟨rfl, H1.drewN _, Kept.drewN K1 _⟩

end Go.Proofs.Ytinphcnknionmaa
