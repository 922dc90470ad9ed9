/- Package term: name. Package term: the two maps' keys. -/
import Derived.Test.YtinphcnknionmabP01
import Derived.Laws.Closers25b
import Derived.Maps.OwnSet
import Derived.DeepKeys4
namespace Go.Proofs.Ytinphcnknionmab
open Go.RowKit

def isNm (c : Nat) : Bool := isLet c || isDig c
/-- Where the letters and digits from i on end. -/
def nmE (s : ByteArray) (i : Nat) : Nat := if h : i < s.size ∧ isNm (byt s i) = true then nmE s (i + 1) else i
termination_by s.size - i
decreasing_by omega
theorem nmE_at {s : ByteArray} {i : Nat} (h : i < s.size) (hb : isNm (byt s i) = true) : nmE s i = nmE s (i + 1) := by rw [nmE]; simp [h, hb]
theorem nmE_end {s : ByteArray} {i : Nat} (h : ¬ (i < s.size ∧ isNm (byt s i) = true)) : nmE s i = i := by rw [nmE]; simp [h]
theorem nmE_ge (s : ByteArray) (i : Nat) : i ≤ nmE s i := by
  induction i using nmE.induct s with
  | case1 i h ih => rw [nmE_at h.1 h.2]; omega
  | case2 i h => rw [nmE_end h]; omega
theorem nmE_le {s : ByteArray} {i : Nat} (hi : i ≤ s.size) : nmE s i ≤ s.size := by
  induction i using nmE.induct s with
  | case1 i h ih => rw [nmE_at h.1 h.2]; exact ih (by omega)
  | case2 i h => rw [nmE_end h]; exact hi

/-- No name stands at i. -/
def badNm (s : ByteArray) (i : Nat) : Bool := decide (nmE s i = i) || decide (6 < nmE s i - i) || isDig (byt s i)

theorem ext_size {s : ByteArray} {i k : Nat} (h : i ≤ k) (hk : k ≤ s.size) : (s.extract i k).size = k - i := by simp [ByteArray.size_extract]; omega
theorem ext0 {s : ByteArray} {i k : Nat} (h : i < k) (hk : k ≤ s.size) (hz : 0 < (s.extract i k).size) : (s.extract i k)[0] = s[i] := by simp [ByteArray.getElem_extract]
theorem ext_nil {s : ByteArray} {i k : Nat} (h : i ≤ k) (hk : k ≤ s.size) : (s.extract i k).toList = [] ↔ i = k := by
  rw [toList_nil_iff_emptyBytes, ByteArray.extract_eq_empty_iff]; omega

def NamePost (w : World) (r : Nat) (bp : Value) (s : ByteArray) (i : Nat) (e : Ending) (w' : World) : Prop :=
  Kept1 r w w' ∧ ((badNm s i = true ∧ e = .panicked [{ v := refusalV 2 i, recovered := false }] ∧ ∃ k, Rd w' r bp s k) ∨
    (badNm s i = false ∧ e = .returned (.string (s.extract i (nmE s i))) ∧ Rd w' r bp s (bl s (nmE s i))))

set_option maxHeartbeats 2000000 in
theorem name_in (w : World) (r : Nat) (bp : Value) (s : ByteArray) (i : Nat) (h : Rd w r bp s i) :
    Calls Try.prog 80 #[.pointer (some ⟨r, 0, none⟩)] w (NamePost w r bp s i) := by
  have hs := h.small
  have c2 := h.c2
  go_enter Try.func80, Try.ntmps80
  go_wp2
  go_loopw [] (fun W => ∃ k : Nat, Rd W r bp s k ∧ Hid (nmE s k = nmE s i) ∧ Hid (Kept1 r w W)) (fun W => s.size - (match W.cell? ⟨r, 2, none⟩ with | some v => (intOf v).toNat | none => 0))
  case atStart => exact ⟨i, h, rfl, Kept.refl _ w⟩
  case round =>
    obtain ⟨k, hR, hb, hK⟩ := hrel
    have c1 := hR.c1
    clear c2
    have c2 := hR.c2
    have f2 := hR.row.frozen 2
    have hle := hR.le
    by_cases h1 : k < s.size
    · have d1 : decide ((k : Int) < s.size) = true := decide_eq_true (by omega)
      have LET : ∀ m, Calls Try.prog 85 #[.int .u8 ((s[k]).toNat : Nat)] (wr.drewN m) fun e w' => e = .returned (.bool (isLet (byt s k))) ∧ w' = wr.drewN m := fun m => (letter_any _ _).mono fun _ _ x => ⟨by rw [x.1, byt_lt h1], x.2.symm⟩
      have DIG : ∀ m, Calls Try.prog 86 #[.int .u8 ((s[k]).toNat : Nat)] (wr.drewN m) fun e w' => e = .returned (.bool (isDig (byt s k))) ∧ w' = wr.drewN m := fun m => (digit_any _ _).mono fun _ _ x => ⟨by rw [x.1, byt_lt h1], x.2.symm⟩
      cases hl : isLet (byt s k) with
      | true =>
        rw [hl] at LET
        have hn : isNm (byt s k) = true := by simp [isNm, hl]
        go_wp2_with fail
        go_quiet ((go_at_call 85; exact Calls.quiet_of_same (LET _)))
        go_wp2_with fail
        refine ⟨⟨k + 1, ?_, (nmE_at h1 hn).symm.trans hb, Kept1.set (hK.drewN _) _ _⟩, ?_⟩
        · have := (hR.drewN nq).step (k := k + 1) (by omega)
          simpa using this
        · have hn := ((hR.drewN nq).step (k := k + 1) (by omega)).c2
          have hn' : ((wr.drewN nq).setCell ⟨r, 2, none⟩ (.int .i64 ((k : Int) + 1))).cell? ⟨r, 2, none⟩ = some (.int .i64 ((k : Int) + 1)) := by simpa using hn
          rw [c2, hn']
          simp only [intOf]
          omega
      | false =>
        rw [hl] at LET
        cases hd : isDig (byt s k) with
        | true =>
          rw [hd] at DIG
          have hn : isNm (byt s k) = true := by simp [isNm, hd]
          go_wp2_with fail
          go_quiet ((first | (go_at_call 85; exact Calls.quiet_of_same (LET _)) | (go_at_call 86; exact Calls.quiet_of_same (DIG _))))
          go_wp2_with fail
          refine ⟨⟨k + 1, ?_, (nmE_at h1 hn).symm.trans hb, Kept1.set (hK.drewN _) _ _⟩, ?_⟩
          · have := (hR.drewN nq).step (k := k + 1) (by omega)
            simpa using this
          · have hn := ((hR.drewN nq).step (k := k + 1) (by omega)).c2
            have hn' : ((wr.drewN nq).setCell ⟨r, 2, none⟩ (.int .i64 ((k : Int) + 1))).cell? ⟨r, 2, none⟩ = some (.int .i64 ((k : Int) + 1)) := by simpa using hn
            rw [c2, hn']
            simp only [intOf]
            omega
        | false =>
          rw [hd] at DIG
          have hn : isNm (byt s k) = false := by simp [isNm, hl, hd]
          go_wp2_with fail
          go_quiet ((first | (go_at_call 85; exact Calls.quiet_of_same (LET _)) | (go_at_call 86; exact Calls.quiet_of_same (DIG _))))
          go_wp2_with fail
          have hE : nmE s i = k := hb.symm.trans (nmE_end (fun x => by have := x.2; rw [hn] at this; cases this))
          clear LET DIG
          have hik : i ≤ k := hE ▸ nmE_ge s i
          have c1' := (hR.drewN nq).c1
          have c2' := (hR.drewN nq).c2
          have hKn : ∀ m, Kept1 r w (wr.drewN m) := fun m => Kept.drewN hK m
          have hRn := hR.drewN
          have hz := ext_size hik hR.le
          have hnil := ext_nil hik hR.le
          clear hb hK hR
          by_cases hA : i = k
          · subst hA
            have hbad : badNm s i = true := by rw [badNm, hE]; simp
            have hn0 := hnil.2 rfl
            clear hnil
            go_quiet (fail)
            go_wp2_with (go_at_call 79; refine (refuse_any _ _ _).mono ?_; rintro e w2 ⟨rfl, rfl⟩)
            exact ⟨rfl, hKn _, Or.inl ⟨hbad, rfl, _, hRn _⟩⟩
          · have hn0 : ¬ (s.extract i k).toList = [] := fun x => hA (hnil.1 x)
            clear hnil
            have hz0 : 0 < (s.extract i k).size := by omega
            have hx0 : ∀ h : 0 < (s.extract i k).size, ((s.extract i k)[0]'h).toNat = byt s i := fun h => by rw [ext0 (by omega) hle h]; exact byt_lt (by omega)
            by_cases hB : 6 < k - i
            · have hbad : badNm s i = true := by simp [badNm, hE, hB]
              have hB' : decide ((6 : Int) < (s.extract i k).size) = true := decide_eq_true (by omega)
              have hB2 : (6 : Int) < (s.extract i k).size := by omega
              go_quiet (fail)
              go_wp2_with (go_at_call 79; refine (refuse_any _ _ _).mono ?_; rintro e w2 ⟨rfl, rfl⟩)
              exact ⟨rfl, hKn _, Or.inl ⟨hbad, rfl, _, hRn _⟩⟩
            · have hB2 : ¬ (6 : Int) < (s.extract i k).size := by omega
              cases hC : isDig (byt s i) with
              | true =>
                have hbad : badNm s i = true := by simp [badNm, hC]
                go_quiet (fail)
                have hNm : ∃ N, s.extract i k = N := ⟨_, rfl⟩
                obtain ⟨N, hNm⟩ := hNm
                rw [hNm] at hz hn0 hz0 hx0 hB2 ⊢
                go_wp2_with (first | (go_at_call 86; refine (digit_any _ _).mono ?_; rintro e w2 ⟨he, rfl⟩; rw [hC] at he; subst he) | (go_at_call 79; refine (refuse_any _ _ _).mono ?_; rintro e w2 ⟨rfl, rfl⟩))
                exact ⟨rfl, hKn _, Or.inl ⟨hbad, rfl, _, hRn _⟩⟩
              | false =>
                have hbad : badNm s i = false := by simp [badNm, hE, hC]; omega
                have hem : (s.extract i k).toList.isEmpty = false := by cases hq : (s.extract i k).toList with | nil => exact absurd hq hn0 | cons a l => rfl
                have hB3 : ¬ (6 : Int) < ((k - i : Nat) : Int) := by omega
                go_quiet (fail)
                have hNm : ∃ N, s.extract i k = N := ⟨_, rfl⟩
                obtain ⟨N, hNm⟩ := hNm
                rw [hNm] at hz hn0 hz0 hx0 hB2 hem ⊢
                go_wp2_with (first | (go_at_call 86; refine (digit_any _ _).mono ?_; rintro e w2 ⟨he, rfl⟩; rw [hC] at he; subst he) | (go_at_call 77; refine (blanks_in _ _ _ _ _ (hRn _)).mono ?_; rintro e w2 ⟨rfl, hR2, hK2⟩))
                go_ret
                refine ⟨Kept.trans (hKn _) hK2, Or.inr ⟨hbad, ?_, by rw [hE]; exact hR2⟩⟩
                rw [hE, hNm]; rfl
    · have d1 : decide ((k : Int) < s.size) = false := decide_eq_false (by omega)
      go_wp2_with fail
      go_quiet (fail)
      go_wp2_with fail
      have hE : nmE s i = k := hb.symm.trans (nmE_end (fun x => h1 x.1))
      have hik : i ≤ k := hE ▸ nmE_ge s i
      have c1' := (hR.drewN nq).c1
      have c2' := (hR.drewN nq).c2
      have hKn : ∀ m, Kept1 r w (wr.drewN m) := fun m => Kept.drewN hK m
      have hRn := hR.drewN
      have hz := ext_size hik hR.le
      have hnil := ext_nil hik hR.le
      clear hb hK hR
      by_cases hA : i = k
      · subst hA
        have hbad : badNm s i = true := by rw [badNm, hE]; simp
        have hn0 := hnil.2 rfl
        clear hnil
        go_quiet (fail)
        go_wp2_with (go_at_call 79; refine (refuse_any _ _ _).mono ?_; rintro e w2 ⟨rfl, rfl⟩)
        exact ⟨rfl, hKn _, Or.inl ⟨hbad, rfl, _, hRn _⟩⟩
      · have hn0 : ¬ (s.extract i k).toList = [] := fun x => hA (hnil.1 x)
        clear hnil
        have hz0 : 0 < (s.extract i k).size := by omega
        have hx0 : ∀ h : 0 < (s.extract i k).size, ((s.extract i k)[0]'h).toNat = byt s i := fun h => by rw [ext0 (by omega) hle h]; exact byt_lt (by omega)
        by_cases hB : 6 < k - i
        · have hbad : badNm s i = true := by simp [badNm, hE, hB]
          have hB' : decide ((6 : Int) < (s.extract i k).size) = true := decide_eq_true (by omega)
          have hB2 : (6 : Int) < (s.extract i k).size := by omega
          go_quiet (fail)
          go_wp2_with (go_at_call 79; refine (refuse_any _ _ _).mono ?_; rintro e w2 ⟨rfl, rfl⟩)
          exact ⟨rfl, hKn _, Or.inl ⟨hbad, rfl, _, hRn _⟩⟩
        · have hB2 : ¬ (6 : Int) < (s.extract i k).size := by omega
          cases hC : isDig (byt s i) with
          | true =>
            have hbad : badNm s i = true := by simp [badNm, hC]
            go_quiet (fail)
            have hNm : ∃ N, s.extract i k = N := ⟨_, rfl⟩
            obtain ⟨N, hNm⟩ := hNm
            rw [hNm] at hz hn0 hz0 hx0 hB2 ⊢
            go_wp2_with (first | (go_at_call 86; refine (digit_any _ _).mono ?_; rintro e w2 ⟨he, rfl⟩; rw [hC] at he; subst he) | (go_at_call 79; refine (refuse_any _ _ _).mono ?_; rintro e w2 ⟨rfl, rfl⟩))
            exact ⟨rfl, hKn _, Or.inl ⟨hbad, rfl, _, hRn _⟩⟩
          | false =>
            have hbad : badNm s i = false := by simp [badNm, hE, hC]; omega
            have hem : (s.extract i k).toList.isEmpty = false := by cases hq : (s.extract i k).toList with | nil => exact absurd hq hn0 | cons a l => rfl
            have hB3 : ¬ (6 : Int) < ((k - i : Nat) : Int) := by omega
            go_quiet (fail)
            have hNm : ∃ N, s.extract i k = N := ⟨_, rfl⟩
            obtain ⟨N, hNm⟩ := hNm
            rw [hNm] at hz hn0 hz0 hx0 hB2 hem ⊢
            go_wp2_with (first | (go_at_call 86; refine (digit_any _ _).mono ?_; rintro e w2 ⟨he, rfl⟩; rw [hC] at he; subst he) | (go_at_call 77; refine (blanks_in _ _ _ _ _ (hRn _)).mono ?_; rintro e w2 ⟨rfl, hR2, hK2⟩))
            go_ret
            refine ⟨Kept.trans (hKn _) hK2, Or.inr ⟨hbad, ?_, by rw [hE]; exact hR2⟩⟩
            rw [hE, hNm]; rfl

end Go.Proofs.Ytinphcnknionmab

namespace Go.Proofs.Ytinphcnknionmab
open Go.RowKit Go.Maps

theorem tLaid : laidOutB Try.prog = true := by kernel_rfl
theorem tRow : (128 : TypeId) < Try.prog.types.size := of_decide_eq_true (by kernel_rfl)
theorem tCells : Try.prog.cellsOf 128 = 6 := by kernel_rfl
theorem tCells4 : Try.prog.cellsOf 126 = 4 := by kernel_rfl
theorem tCellsI : Try.prog.cellsOf 3 = 1 := by kernel_rfl
theorem tCellsS : Try.prog.cellsOf 9 = 1 := by kernel_rfl
theorem tKeyType : Try.prog.keyType 128 = true := by kernel_rfl
theorem tKeyAt : Try.prog.keyTypeAt 3 128 = true := by kernel_rfl
theorem tLaw : Keyed Try.prog 128 := Keyed.of_law (deep_law_laid tLaid (m := 3) (by omega) tRow tKeyAt (by rw [Try.underlying128]))
theorem sLaw : Keyed Try.prog 9 := string_keyed Try.underlying9
theorem zeroI (w : World) : (zeroValue 3).run Try.prog w = .ok (.int .i64 0) w := by kernel_rfl

/-- A term of a bank. -/
structure Tm where
  name : ByteArray
  args : List Nat
deriving DecidableEq

/-- Arg i as the program keeps it: 0 behind the last one. -/
def Tm.arg (t : Tm) (i : Nat) : Nat := t.args.getD i 0

def entryL (t : Tm) : List Value := [.string t.name, .int .i64 (t.args.length : Int), .int .i64 (t.arg 0 : Int), .int .i64 (t.arg 1 : Int), .int .i64 (t.arg 2 : Int), .int .i64 (t.arg 3 : Int)]
def entryV (t : Tm) : Value := .agg (entryL t).toArray

structure Tm.ok (t : Tm) : Prop where
  name : t.name.size ≤ 6
  args : t.args.length ≤ 4
  small : ∀ a ∈ t.args, a < 1000

theorem Tm.ok.arg {t : Tm} (h : t.ok) (i : Nat) : t.arg i < 1000 := by
  unfold Tm.arg
  rw [List.getD_eq_getElem?_getD]
  cases e : t.args[i]? with
  | none => simp
  | some a => simpa using h.small a (List.mem_of_getElem? e)

theorem wf64 {a : Nat} (h : a < 100000) : (Lit.int .i64 (a : Int)).wf = true := WalkArith.wf_i64 (by omega)

theorem entry_formed (t : Tm) : (entryV t).formed Try.prog 128 = true := by simp [entryV, entryL, Value.formed, Try.underlying128, tCells]

theorem entry_key (t : Tm) (h : t.ok) : ∃ kl, keyOf Try.prog 128 (entryV t) = some kl := by
  have h0 : t.name.size ≤ maxLen := Nat.le_trans h.name (by decide)
  have h1 : (Lit.int .i64 (t.args.length : Int)).wf = true := wf64 (by have := h.args; omega)
  have g0 : (Lit.int .i64 (t.arg 0 : Int)).wf = true := wf64 (by have := h.arg 0; omega)
  have g1 : (Lit.int .i64 (t.arg 1 : Int)).wf = true := wf64 (by have := h.arg 1; omega)
  have g2 : (Lit.int .i64 (t.arg 2 : Int)).wf = true := wf64 (by have := h.arg 2; omega)
  have g3 : (Lit.int .i64 (t.arg 3 : Int)).wf = true := wf64 (by have := h.arg 3; omega)
  unfold keyOf
  rw [Try.underlying128]
  simp only [tKeyType, entry_formed]
  obtain ⟨m, hm⟩ : ∃ m, Try.prog.types.size + 1 = m + 3 := ⟨Try.prog.types.size - 2, by have h9 := tRow; generalize Try.prog.types.size = z at h9 ⊢; exact (by have h8 : 3 ≤ z := Nat.le_trans (by decide) (Nat.le_of_lt h9); omega)⟩
  rw [hm]
  have hr : List.range 4 = [0, 1, 2, 3] := rfl
  simp [Program.keyLits, Try.underlying128, Try.underlying126, Try.underlying3, Try.underlying9, tCells, tCells4, tCellsI, tCellsS, entryV, entryL, Value.cells, hr, h0, h1, g0, g1, g2, g3]

end Go.Proofs.Ytinphcnknionmab
