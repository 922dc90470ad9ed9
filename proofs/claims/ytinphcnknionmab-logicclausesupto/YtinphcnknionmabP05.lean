/- Package logic: must, isOfName, termEnd. Package logic: termEnd. Package term: add as one; New. -/
import Derived.Test.YtinphcnknionmabP04
import Derived.Test.YtinphcnknionmabP02
import Derived.Lib.ConvBytes
import Derived.Deep.RegionWith
import Derived.Test.YtinphcnknionmabP03
namespace Go.Proofs.Ytinphcnknionmab
open Go.RowKit

set_option maxHeartbeats 1000000 in
theorem must_yes (w : World) (r : Nat) (bp : Value) (s : ByteArray) (i d : Nat) (h : Lp w r bp s i d) (c : Nat) (hst : stands s i c = true) :
    Calls Try.prog 59 #[.pointer (some ⟨r, 0, none⟩), .int .u8 (c : Int)] w fun e w' => e = .returned (.tuple #[]) ∧ Lp w' r bp s (bl s (i + 1)) d ∧ Kept1 r w w' := by
  have h1 := of_decide_eq_true hst
  have NX := next_k w r bp s i d h
  rw [h1.2] at NX
  have hsm := h.small
  have HC : Hid (∀ W, Kept0 w W → W.cell? ⟨r, 2, none⟩ = some (.int .i64 (i : Int)) ∧ W.frozen? ⟨r, 2, none⟩ = false) := fun W K => ⟨(h.kept0 K).c2, (h.kept0 K).row.frozen 2⟩
  have STP : Hid (∀ W, Kept0 w W → Lp (W.setCell ⟨r, 2, none⟩ (.int .i64 ((i : Int) + 1))) r bp s (i + 1) d) := fun W K => by
    have := (h.kept0 K).step (k := i + 1) (by omega)
    simpa using this
  have hi1 : i < s.size := h1.1
  have dcc : ((c : Int) != (c : Int)) = false := by simp
  clear h h1 hst
  go_enter Try.func59, Try.ntmps59
  go_wp2_with (first | (go_at_call 57; refine NX.mono ?_; rintro e w3 ⟨rfl, K3⟩; obtain ⟨c2, f2⟩ := HC.out w3 K3; have BL := gblanks_in _ r bp s (i + 1) d (STP.out w3 K3)) | (go_at_call 49; refine BL.mono ?_; rintro e w4 ⟨rfl, L4, K4⟩))
  go_end0
  exact ⟨rfl, L4, Kept.trans (Kept1.set (Kept.mono K3 (fun _ _ e => e.elim)) _ _) K4⟩

set_option maxHeartbeats 1000000 in
theorem must_no (w : World) (r : Nat) (bp : Value) (s : ByteArray) (i d : Nat) (h : Lp w r bp s i d) (c : Nat) (hc : c ≠ 0) (hst : stands s i c = false) :
    Calls Try.prog 59 #[.pointer (some ⟨r, 0, none⟩), .int .u8 (c : Int)] w fun e w' => e = .panicked [{ v := grefusalV 2 (i : Int), recovered := false }] ∧ Kept0 w w' := by
  have hne : byt s i ≠ c := fun e => by
    by_cases h2 : i < s.size
    · rw [stands_true h2 e] at hst; cases hst
    · simp [byt, h2] at e; omega
  have NX := next_k w r bp s i d h
  have HC : Hid (∀ W, Kept0 w W → W.cell? ⟨r, 2, none⟩ = some (.int .i64 (i : Int))) := fun W K => (h.kept0 K).c2
  have dne : ((byt s i : Int) != (c : Int)) = true := by simp; omega
  have hle := h.le
  have hsm := h.small
  clear h hst hne
  generalize byt s i = bi at *
  go_enter Try.func59, Try.ntmps59
  go_wp2_with (first | (go_at_call 57; refine NX.mono ?_; rintro e w3 ⟨rfl, K3⟩; have c2 := HC.out w3 K3) | (go_at_call 51; refine (grefuse_any _ _ _).mono ?_; rintro e w4 ⟨rfl, rfl⟩))
  exact ⟨rfl, rfl, K3⟩

/-- Is it a byte of a name? -/
def ofNm (c : Nat) : Bool := isLet c || isDig c

set_option maxHeartbeats 1000000 in
theorem ofName_any (w : World) (c : Nat) :
    Calls Try.prog 72 #[.int .u8 (c : Int)] w fun e w' => e = .returned (.bool (ofNm c)) ∧ w = w' := by
  go_enter Try.func72, Try.ntmps72
  by_cases h1 : 97 ≤ c
  · have d1 : decide ((97 : Int) ≤ (c : Int)) = true := decide_eq_true (by omega)
    by_cases h2 : c ≤ 122
    · have d2 : decide ((c : Int) ≤ 122) = true := decide_eq_true (by omega)
      have e : ofNm c = true := by simp [ofNm, isLet, isDig]; omega
      go_wp2_with fail
      go_ret
      exact ⟨ret_bool e.symm, rfl⟩
    · have d2 : decide ((c : Int) ≤ 122) = false := decide_eq_false (by omega)
      have d3 : decide ((48 : Int) ≤ (c : Int)) = true := decide_eq_true (by omega)
      have d4 : decide ((c : Int) ≤ 57) = false := decide_eq_false (by omega)
      have e : ofNm c = false := by simp [ofNm, isLet, isDig]; omega
      go_wp2_with fail
      go_ret
      exact ⟨ret_bool e.symm, rfl⟩
  · have d1 : decide ((97 : Int) ≤ (c : Int)) = false := decide_eq_false (by omega)
    by_cases h3 : 48 ≤ c
    · have d3 : decide ((48 : Int) ≤ (c : Int)) = true := decide_eq_true (by omega)
      by_cases h4 : c ≤ 57
      · have d4 : decide ((c : Int) ≤ 57) = true := decide_eq_true (by omega)
        have e : ofNm c = true := by simp [ofNm, isLet, isDig]; omega
        go_wp2_with fail
        go_ret
        exact ⟨ret_bool e.symm, rfl⟩
      · have d4 : decide ((c : Int) ≤ 57) = false := decide_eq_false (by omega)
        have e : ofNm c = false := by simp [ofNm, isLet, isDig]; omega
        go_wp2_with fail
        go_ret
        exact ⟨ret_bool e.symm, rfl⟩
    · have d3 : decide ((48 : Int) ≤ (c : Int)) = false := decide_eq_false (by omega)
      have e : ofNm c = false := by simp [ofNm, isLet, isDig]; omega
      go_wp2_with fail
      go_ret
      exact ⟨ret_bool e.symm, rfl⟩

end Go.Proofs.Ytinphcnknionmab

namespace Go.Proofs.Ytinphcnknionmab
open Go.RowKit

/-- Where the bracket closes, with so many open ones. -/
def clo (s : ByteArray) (k o : Nat) : Nat :=
  if k < s.size then
    if (if byt s k = 40 then o + 1 else if byt s k = 41 then o - 1 else o) = 0 then k + 1 else clo s (k + 1) (if byt s k = 40 then o + 1 else if byt s k = 41 then o - 1 else o)
  else s.size
termination_by s.size - k
decreasing_by omega

theorem clo_in {s : ByteArray} {k o : Nat} (h : k < s.size) : clo s k o = if (if byt s k = 40 then o + 1 else if byt s k = 41 then o - 1 else o) = 0 then k + 1 else clo s (k + 1) (if byt s k = 40 then o + 1 else if byt s k = 41 then o - 1 else o) := by
  rw [clo, if_pos h]
theorem clo_out {s : ByteArray} {k o : Nat} (h : ¬ k < s.size) : clo s k o = s.size := by rw [clo, if_neg h]

/-- Where the term ends that begins at i. -/
def tEnd (s : ByteArray) (i : Nat) : Nat := if byt s (bl s (nmE s i)) = 40 then clo s (bl s (nmE s i)) 0 else nmE s i

theorem ofNm_eq (c : Nat) : ofNm c = isNm c := rfl

theorem made_parser (w : World) (bp : Value) (s : ByteArray) (i d : Nat) (hi : i ≤ s.size) (hs : s.size ≤ 400) :
    Lp (w.alloc (.cells #[bp, .string s, .int .i64 (i : Int), .int .u64 (d : Int)] 87)) w.heap.size bp s i d := by
  refine ⟨World.rowIs.congr (made_row w #[bp, .string s, .int .i64 (i : Int), .int .u64 (d : Int)] 87) ?_, hi, hs⟩
  intro j hj
  have hj' : j < 4 := hj
  rcases (by omega : j = 0 ∨ j = 1 ∨ j = 2 ∨ j = 3) with rfl | rfl | rfl | rfl <;> rfl


theorem Lp.fresh0 {w w' : World} {x : Nat} (K : Kept1 x w w') {w0 : World} (K0 : Kept0 w0 w) (hx : w0.heap.size ≤ x) : Kept0 w0 w' :=
  ⟨K.os.trans K0.os, K.tape.trans K0.tape, K.output.trans K0.output, Nat.le_trans K0.size K.size, fun k hk _ => (K.block k (Nat.lt_of_lt_of_le hk K0.size) (by omega)).trans (K0.block k hk (fun e => e))⟩

theorem bytes_at (w : World) (e : TypeId) (s : ByteArray) (b : Nat) (j : Nat) (hj : j < s.size - b) : (Lib.bytesWorld w e (s.extract b s.size)).cell? ⟨w.heap.size, j, none⟩ = some (.int .u8 (byt s (b + j) : Int)) := by
  have hz : (s.extract b s.size).size = s.size - b := by simp [ByteArray.size_extract]
  rw [Lib.bytesWorld_cell w e _ j (by omega)]
  have h1 : b + j < s.size := by omega
  have h2 : j < (s.extract b s.size).size := by omega
  have h3 : ((s.extract b s.size).data.toList.getD j 0) = s[b + j] := by
    rw [List.getD_eq_getElem?_getD, Array.getElem?_toList]
    have : (s.extract b s.size).data[j]? = some ((s.extract b s.size)[j]) := by
      rw [Array.getElem?_eq_getElem (by simpa using h2)]; rfl
    rw [this, ByteArray.getElem_extract]
    rfl
  rw [h3, byt_lt h1]
theorem bytes_kept {w0 w : World} (K : Kept0 w0 w) (e : TypeId) (S : ByteArray) : Kept0 w0 (Lib.bytesWorld w.drew e S) :=
  Kept.trans K ⟨rfl, rfl, rfl, by rw [Lib.bytesWorld_size]; exact Nat.le_succ _, fun k hk _ => Lib.bytesWorld_at_old w.drew e S k hk⟩

set_option maxRecDepth 100000 in
set_option maxHeartbeats 2000000 in
theorem termEnd_in (w : World) (r p : Nat) (s : ByteArray) (i d : Nat) (h : Lp w r (.pointer (some ⟨p, 0, none⟩)) s i d) :
    Calls Try.prog 70 #[.pointer (some ⟨r, 0, none⟩)] w fun e w' => e = .returned (.int .i64 (tEnd s i : Int)) ∧ Kept0 w w' := by
  have c0 := h.c0
  have c1 := h.c1
  have c2 := h.c2
  have c3 := h.c3
  have M := made_parser w (.pointer (some ⟨p, 0, none⟩)) s i d h.le h.small
  have K0 : Kept0 w (w.alloc (.cells #[.pointer (some ⟨p, 0, none⟩), .string s, .int .i64 (i : Int), .int .u64 (d : Int)] 87)) := Kept.alloc (Kept.refl _ w) _
  go_enter Try.func70, Try.ntmps70
  go_wp2_with fail
  generalize w.alloc (.cells #[.pointer (some ⟨p, 0, none⟩), .string s, .int .i64 (i : Int), .int .u64 (d : Int)] 87) = w1 at M K0 ⊢
  have hx : w.heap.size ≤ w.heap.size := Nat.le_refl _
  have CR : Hid (∀ W, Kept1 w.heap.size w1 W → W.cell? ⟨r, 1, none⟩ = some (.string s) ∧ Kept0 w W) := fun W K => ⟨(h.kept0 (Lp.fresh0 K K0 (Nat.le_refl _))).c1, Lp.fresh0 K K0 (Nat.le_refl _)⟩
  generalize hxx : w.heap.size = x at M hx CR ⊢
  go_loopw [] (fun W => ∃ k : Nat, Lp W x (.pointer (some ⟨p, 0, none⟩)) s k d ∧ Hid (nmE s k = nmE s i) ∧ Hid (Kept1 x w1 W)) (fun W => s.size - (match W.cell? ⟨x, 2, none⟩ with | some v => (intOf v).toNat | none => 0))
  case atStart => exact ⟨i, M, rfl, Kept.refl _ w1⟩
  case round =>
    obtain ⟨k, hR, hb, hK⟩ := hrel
    have NX := next_k wr x (.pointer (some ⟨p, 0, none⟩)) s k d hR
    have hle := hR.le
    have hsm := hR.small
    have c2r := hR.c2
    clear c0 c1 c2 c3
    cases hnm : ofNm (byt s k) with
    | true =>
      have hk1 : k < s.size := by
        refine Decidable.byContradiction fun hh => ?_
        simp [byt, hh, ofNm, isLet, isDig] at hnm
      have NM := fun W => ofName_any W (byt s k)
      rw [hnm] at NM
      have STP : Hid (∀ W, Kept0 wr W → Lp (W.setCell ⟨x, 2, none⟩ (.int .i64 ((k : Int) + 1))) x (.pointer (some ⟨p, 0, none⟩)) s (k + 1) d) := fun W K => by
        have := (hR.kept0 K).step (k := k + 1) (by omega)
        simpa using this
      have HC : Hid (∀ W, Kept0 wr W → W.cell? ⟨x, 2, none⟩ = some (.int .i64 (k : Int)) ∧ W.frozen? ⟨x, 2, none⟩ = false) := fun W K => ⟨(hR.kept0 K).c2, (hR.kept0 K).row.frozen 2⟩
      have hb2 : Hid (nmE s (k + 1) = nmE s i) := (nmE_at hk1 hnm).symm.trans hb
      have HC2 : Hid (wr.cell? ⟨x, 2, none⟩ = some (.int .i64 (k : Int))) := c2r
      clear hR hb c2r hnm
      generalize byt s k = bk at *
      go_wp2_with (first | (go_at_call 57; refine NX.mono ?_; rintro e w3 ⟨rfl, K3⟩; obtain ⟨c2, f2⟩ := HC.out w3 K3) | (go_at_call 72; refine (NM _).mono ?_; rintro e w4 ⟨rfl, rfl⟩))
      refine ⟨⟨k + 1, STP.out w3 K3, hb2, Kept1.set (hK.out.trans (Kept.mono K3 (fun _ _ e => e.elim))) _ _⟩, ?_⟩
      rw [(STP.out w3 K3).c2, HC2.out]
      simp only [intOf]
      omega
    | false =>
      have NM := fun W => ofName_any W (byt s k)
      rw [hnm] at NM
      have e : nmE s i = k := hb.symm.trans (nmE_end (fun hh => by rw [← ofNm_eq, hnm] at hh; cases hh.2))
      have HR : Hid (_ ∧ _) := And.intro hR hK.out
      have HE : Hid (nmE s i = k) := e
      have HB : Hid (∀ W, Kept0 wr W → Lp W x (.pointer (some ⟨p, 0, none⟩)) s k d) := fun W K => hR.kept0 K
      have HC : Hid (∀ W, Kept0 wr W → W.cell? ⟨x, 2, none⟩ = some (.int .i64 (k : Int))) := fun W K => (hR.kept0 K).c2
      clear hb hK c2r hnm e
      clear hR
      generalize byt s k = bk at *
      have NXT : Hid (∀ W, Lp W x (.pointer (some ⟨p, 0, none⟩)) s (bl s k) d → _) := fun W L => next_k W x _ s (bl s k) d L
      have hblk := bl_le hle
      have HT : Hid (tEnd s i = if byt s (bl s k) = 40 then clo s (bl s k) 0 else k) := by show tEnd s i = _; rw [tEnd, HE.out]
      by_cases h40 : byt s (bl s k) = 40
      · rw [h40] at NXT
        go_wp2_with (first | (go_at_call 57; refine NX2.mono ?_; rintro e w5 ⟨rfl, K5⟩; have c52 := (L4.kept0 K5).c2; have CR5 := (CR.out w5 ((HR.out.2.trans (Kept.mono K3 (fun _ _ e => e.elim))).trans (K4.trans (Kept.mono K5 (fun _ _ e => e.elim))))).1) | (go_at_call 57; refine NX.mono ?_; rintro e w3 ⟨rfl, K3⟩; have c2 := HC.out w3 K3; clear NX; have BL := gblanks_in w3 x _ s k d (HB.out w3 K3)) | (go_at_call 72; refine (NM _).mono ?_; rintro e w4 ⟨rfl, rfl⟩) | (go_at_call 49; refine BL.mono ?_; rintro e w4 ⟨rfl, L4, K4⟩; have NX2 := NXT.out w4 L4))
        have HW5 : Hid (Kept0 w w5) := (CR.out w5 ((HR.out.2.trans (Kept.mono K3 (fun _ _ e => e.elim))).trans (K4.trans (Kept.mono K5 (fun _ _ e => e.elim))))).2
        have hbk : ((bl s k : Nat) : Int) ≤ s.size := by omega
        have CV := Lib.run_convert_string_bytes (P := Try.prog) w5.drew 9 90 5 (s.extract (bl s k) s.size) Try.underlying9 Try.underlying90 Try.underlying5
        have hz := ext_size hblk (Nat.le_refl s.size)
        have hlx : x < w5.heap.size := (L4.kept0 K5).row.lt
        clear CR HR HB HC HE K3 K4 K5 L4 BL NX2 NM NXT M K0 hx
        generalize bl s k = b at *
        have CB : Hid (∀ j, j < s.size - b → (Lib.bytesWorld w5.drew 5 (s.extract b s.size)).cell? ⟨w5.heap.size, j, none⟩ = some (.int .u8 (byt s (b + j) : Int))) := bytes_at w5.drew 5 s b
        have KB : Hid (Kept0 w (Lib.bytesWorld w5.drew 5 (s.extract b s.size))) := bytes_kept HW5.out 5 (s.extract b s.size)
        have CX : Hid ((Lib.bytesWorld w5.drew 5 (s.extract b s.size)).cell? ⟨x, 2, none⟩ = some (.int .i64 (b : Int))) := (Lib.bytesWorld_old w5.drew 5 _ ⟨x, 2, none⟩ hlx).trans c52
        clear hlx
        go_region_with fail
        all_goals
          clear CV c52 CR5
          generalize Lib.bytesWorld w5.drew 5 (s.extract b s.size) = w6 at CB KB CX ⊢
          have HL6 : Hid (Lp w6 r (.pointer (some ⟨p, 0, none⟩)) s i d) := h.kept0 KB.out
          have HT2 : Hid (tEnd s i = clo s b 0) := by have := HT.out; rw [if_pos h40] at this; exact this
          have H40 : Hid (byt s b = 40) := h40
          clear HT h h40
          simp only [Act.put, List.getElem_toArray, List.getElem_cons_succ, List.getElem_cons_zero, List.setIfInBounds_toArray, List.set_cons_succ, List.set_cons_zero]
          go_wp2_with fail
          generalize hS : s.extract b s.size = S
          generalize grownCap w5.drew (s.size - b) 0 5 = cp
          generalize w5.heap.size = y at *
          clear hS hz
          go_loopw [5, 32] (fun t5 t32 W => ∃ (j o : Nat), t5 = .int .i64 (o : Int) ∧ t32 = .int .i64 (j : Int) ∧ j ≤ s.size - b ∧ o ≤ j ∧ Hid (clo s b 0 = clo s (b + j) o ∧ (j = 0 ∨ 1 ≤ o)) ∧ Hid (W = w6)) (fun _ t32 _ => s.size - b - (intOf t32).toNat)
          case atStart => exact ⟨0, 0, rfl, rfl, Nat.zero_le _, Nat.le_refl _, ⟨rfl, Or.inl rfl⟩, rfl⟩
          case round =>
            obtain ⟨j, o, rfl, rfl, hj, hoj, HJ, hw⟩ := hrel
            obtain rfl := hw.out
            clear hw
            by_cases hlt : j < s.size - b
            · have cb := CB.out j hlt
              have hlt' : ((j : Nat) : Int) < ((s.size - b : Nat) : Int) := by omega
              have hE := HJ.out.1
              rw [clo_in (o := o) (by omega : b + j < s.size)] at hE
              have ho1 := HJ.out.2
              by_cases e40 : byt s (b + j) = 40
              · rw [e40] at cb
                rw [if_pos e40, if_neg (by omega)] at hE
                have HE2 : Hid (clo s b 0 = clo s (b + (j + 1)) (o + 1)) := hE
                clear hE HJ e40 ho1
                have dno : ((o : Int) + 1 == 0) = false := by simp; omega
                have dno' : ¬ (o : Int) + 1 = 0 := by omega
                go_wp2_with fail
                go_roundw
                case rel => exact ⟨j + 1, o + 1, by simp, by simp, by omega, by omega, ⟨HE2.out, Or.inr (by omega)⟩, by first | exact rfl | exact trivial⟩
                case measure => simp only [intOf]; omega
              · rw [if_neg e40] at hE
                have hj0 : j ≠ 0 := fun e => e40 (by rw [e]; exact H40.out)
                have d40 : ((byt s (b + j) : Int) == 40) = false := by simp; omega
                by_cases e41 : byt s (b + j) = 41
                · rw [e41] at cb
                  rw [if_pos e41] at hE
                  clear d40
                  by_cases o1 : o = 1
                  · rw [if_pos (by omega)] at hE
                    have HE2 : Hid (clo s b 0 = b + j + 1) := hE
                    clear hE HJ e40 e41 ho1
                    subst o1
                    have cx := CX.out
                    go_wp2_with fail
                    go_ret
                    refine ⟨?_, KB.out⟩
                    rw [HT2.out, HE2.out]
                    simp
                  · rw [if_neg (by omega)] at hE
                    have HE2 : Hid (clo s b 0 = clo s (b + (j + 1)) (o - 1)) := hE
                    clear hE HJ e40 e41
                    have dno : ((o : Int) - 1 == 0) = false := by simp; omega
                    have dno' : ¬ (o : Int) - 1 = 0 := by omega
                    go_wp2_with fail
                    go_roundw
                    case rel => exact ⟨j + 1, o - 1, by simp; omega, by simp, by omega, by omega, ⟨HE2.out, Or.inr (by omega)⟩, by first | exact rfl | exact trivial⟩
                    case measure => simp only [intOf]; omega
                · rw [if_neg e41] at hE
                  rw [if_neg (by omega)] at hE
                  have d41 : ((byt s (b + j) : Int) == 41) = false := by simp; omega
                  have HE2 : Hid (clo s b 0 = clo s (b + (j + 1)) o) := hE
                  clear hE HJ e40 e41
                  have dno : ((o : Int) == 0) = false := by simp; omega
                  have dno' : ¬ (o : Int) = 0 := by omega
                  generalize byt s (b + j) = bj at *
                  go_wp2_with fail
                  go_roundw
                  case rel => exact ⟨j + 1, o, rfl, by simp, by omega, by omega, ⟨HE2.out, Or.inr (by omega)⟩, by first | exact rfl | exact trivial⟩
                  case measure => simp only [intOf]; omega
            · have hlt' : ¬ ((j : Nat) : Int) < ((s.size - b : Nat) : Int) := by omega
              have HE2 : Hid (clo s b 0 = s.size) := by
                have := HJ.out.1
                rw [clo_out (o := o) (by omega : ¬ b + j < s.size)] at this
                exact this
              have c1r := HL6.out.c1
              go_wp2_with fail
              go_ret
              refine ⟨?_, KB.out⟩
              rw [HT2.out, HE2.out]
              rfl
      · have dne : ((byt s (bl s k) : Int) != 40) = true := by simp; omega
        generalize byt s (bl s k) = bb at *
        go_wp2_with (first | (go_at_call 57; refine NX2.mono ?_; rintro e w5 ⟨rfl, K5⟩) | (go_at_call 57; refine NX.mono ?_; rintro e w3 ⟨rfl, K3⟩; have c2 := HC.out w3 K3; clear NX; have BL := gblanks_in w3 x _ s k d (HB.out w3 K3)) | (go_at_call 72; refine (NM _).mono ?_; rintro e w4 ⟨rfl, rfl⟩) | (go_at_call 49; refine BL.mono ?_; rintro e w4 ⟨rfl, L4, K4⟩; have NX2 := NXT.out w4 L4))
        go_ret
        refine ⟨?_, (CR.out w5 ((HR.out.2.trans (Kept.mono K3 (fun _ _ e => e.elim))).trans (K4.trans (Kept.mono K5 (fun _ _ e => e.elim))))).2⟩
        rw [HT.out, if_neg h40]
        rfl

end Go.Proofs.Ytinphcnknionmab

namespace Go.Proofs.Ytinphcnknionmab
open Go.RowKit Go.Maps

theorem add_in (w : World) (base p : Nat) (ev : Value) (nb fb : Nat) (l : List Tm) (h : Bk w base p ev nb fb l) (t : Tm) (ht : t.ok) (hlt : l.length < 1000) (hbase : base ≤ w.heap.size) :
    Calls Try.prog 84 #[.pointer (some ⟨p, 0, none⟩), entryV t] w fun e w' => e = .returned (.int .i64 (addN l t : Int)) ∧ ∃ ev', Bk w' base p ev' nb fb (addL l t) ∧ Kept (BFoot p ev nb fb) w w' ∧ (ev'.ownBlock = ev.ownBlock ∨ ∀ k, ev'.ownBlock = some k → w.heap.size ≤ k) := by
  cases hi : nix l t with
  | some i =>
    refine (add_old w base p ev nb fb l h t ht i hi).mono ?_
    rintro e w' ⟨rfl, H, K⟩
    exact ⟨by simp [addN, hi], ev, by simpa [addL, hi] using H, Kept.mono K (fun _ _ x => x.elim), Or.inl rfl⟩
  | none =>
    refine (add_new w base p ev nb fb l h t ht hi hlt hbase).mono ?_
    rintro e w' ⟨rfl, ev', H, K, L⟩
    exact ⟨by simp [addN, hi], ev', by simpa [addL, hi] using H, K, L⟩

theorem Tells.empty : Tells [] (.map []) (.map []) :=
  ⟨rfl, fun t _ => ⟨rfl, rfl⟩, rfl, fun n _ => ⟨rfl, rfl⟩, by simp, List.nodup_nil, by simp⟩

theorem made_bank (w : World) : Bk (((w.alloc (Obj.map #[] 0)).alloc (Obj.map #[] 0)).alloc (Obj.cells #[.slice none 0 0, .map (some w.heap.size), .map (some (w.heap.size + 1))] 85)) w.heap.size (w.heap.size + 1 + 1) (.slice none 0 0) w.heap.size (w.heap.size + 1) [] := by
  have h1 : (w.alloc (Obj.map #[] 0)).heap.size = w.heap.size + 1 := by simp
  have h2 : ((w.alloc (Obj.map #[] 0)).alloc (Obj.map #[] 0)).heap.size = w.heap.size + 1 + 1 := by simp
  have m1 := World.ownsMap_made (H := Unit) w Try.prog 128 (plainElem Try.prog 3)
  have m2 := World.ownsMap_made (H := Unit) (w.alloc (Obj.map #[] 0)) Try.prog 9 (plainElem Try.prog 3)
  have r := made_row ((w.alloc (Obj.map #[] 0)).alloc (Obj.map #[] 0)) #[.slice none 0 0, .map (some w.heap.size), .map (some (w.heap.size + 1))] 85
  rw [h1] at m2
  rw [h2] at r
  refine Bq.whole (Dn := .map []) (Df := .map []) ⟨World.rowIs.congr r ?_, World.ownsRow_nil _ _ _ _, mapIs_of ((m1.alloc _).alloc _), mapIs_of (m2.alloc _), by omega, by omega, by omega, by simp [Value.ownBlock], by simp [Value.ownBlock], by simp [Value.ownBlock], by omega, by omega, by omega⟩ Tells.empty
  intro i hi
  have hi' : i < 3 := hi
  rcases (by omega : i = 0 ∨ i = 1 ∨ i = 2) with rfl | rfl | rfl <;> rfl

set_option maxHeartbeats 400000 in
theorem tNew_any (w : World) :
    Calls Try.prog 23 #[] w fun e w' => ∃ p nb fb, e = .returned (.pointer (some ⟨p, 0, none⟩)) ∧ Bk w' w.heap.size p (.slice none 0 0) nb fb [] ∧ Below w.heap.size w w' := by
  have hmm := @run_makeMap Try.prog
  go_enter Try.func23, Try.ntmps23
  go_wp2_with fail
  go_ret
  refine ⟨_, _, _, rfl, made_bank w, ?_⟩
  exact Kept.below (((Kept.refl (fun _ => False) w).alloc _ |>.alloc _).alloc _) (Nat.le_refl _) (fun _ x => x.elim)

end Go.Proofs.Ytinphcnknionmab
