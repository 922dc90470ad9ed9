/- Package find: New, unhang. Package logic: termEnd. -/
import Derived.Test.YtinphcnknionmabP04
import Derived.Lib.ConvBytes
import Derived.Deep.RegionWith
namespace Go.Proofs.Ytinphcnknionmab
open Go.RowKit

theorem made_row (w : World) (C : Array Value) (t : TypeId) : (w.alloc (.cells C t)).rowIs w.heap.size t C.size (fun i => C[i]?.getD undef) :=
  World.rowIs_alloc w C t _ (fun i hi => by rw [Array.getElem?_eq_getElem hi]; rfl)

theorem box_row (w : World) (x y : Value) (t : TypeId) : (w.alloc (.cells #[x, y] t)).rowIs w.heap.size t 2 (fun j => if j = 0 then x else y) :=
  (made_row w #[x, y] t).congr fun i hi => match i, hi with
    | 0, _ => rfl
    | 1, _ => rfl

theorem new_cells (k : Nat) (f : Nat → Value) (hf : ∀ j, j < k * 4 → f j = nodeC Uf.g0 j) : ∀ j, j < (k + 1) * 4 →
    (if j = k * 4 + 3 then Value.int .i64 (k : Int) else if j = k * 4 + 2 then .int .i64 1 else if j = k * 4 + 1 then .int .i64 (k : Int) else if j = k * 4 then .int .i64 (k : Int) else f j) = nodeC Uf.g0 j := by
  intro j hj
  by_cases h3 : j = k * 4 + 3
  · rw [if_pos h3, h3, nodeC_lst]; rfl
  · by_cases h2 : j = k * 4 + 2
    · rw [if_neg h3, if_pos h2, h2, nodeC_siz]; rfl
    · by_cases h1 : j = k * 4 + 1
      · rw [if_neg h3, if_neg h2, if_pos h1, h1, nodeC_nxt]; rfl
      · by_cases h0 : j = k * 4
        · rw [if_neg h3, if_neg h2, if_neg h1, if_pos h0, h0, nodeC_par]; rfl
        · rw [if_neg h3, if_neg h2, if_neg h1, if_neg h0]; exact hf j (by omega)

/-- Nodes whose cells are just integers. -/
def intC (F : Nat → Int) (j : Nat) : Value := .int .i64 (F j)

def cutF (F : Nat → Int) (c r : Nat) (l : Int) (j : Nat) : Int :=
  if j = r * 4 + 3 then l else if j = r * 4 + 2 then wrap64 (F (r * 4 + 2) - F (c * 4 + 2)) else if j = r * 4 + 1 then F (c * 4 + 1) else if j = c * 4 + 1 then F (r * 4 + 1) else if j = c * 4 then (c : Int) else F j

theorem unhang_cells (g : Uf.G) (c r : Nat) (hne : c ≠ r) (hc : (g.N c).par = c) (j : Nat) :
    (if j = r * 4 + 3 then .int .i64 ((g.N r).lst : Int) else if j = r * 4 + 2 then .int .i64 ((g.N r).siz : Int) else if j = r * 4 + 1 then .int .i64 ((g.N r).nxt : Int) else if j = c * 4 + 1 then .int .i64 ((g.N c).nxt : Int) else if j = c * 4 then .int .i64 (c : Int) else nodeC (Uf.hang g c r) j) = nodeC g j := by
  rw [← hang_cells g c r hne j]
  by_cases h1 : j = r * 4 + 3
  · rw [if_pos h1, h1, nodeC_lst]
  · by_cases h2 : j = r * 4 + 2
    · rw [if_neg h1, if_pos h2, h2, nodeC_siz]
    · by_cases h3 : j = r * 4 + 1
      · rw [if_neg h1, if_neg h2, if_pos h3, h3, nodeC_nxt]
      · by_cases h4 : j = c * 4 + 1
        · rw [if_neg h1, if_neg h2, if_neg h3, if_pos h4, h4, nodeC_nxt]
        · by_cases h5 : j = c * 4
          · rw [if_neg h1, if_neg h2, if_neg h3, if_neg h4, if_pos h5, h5, nodeC_par, hc]
          · rw [if_neg h1, if_neg h2, if_neg h3, if_neg h4, if_neg h5, if_neg h1, if_neg h2, if_neg h3, if_neg h4, if_neg h5]

theorem wrap64_small (a : Int) (h0 : -1000000 ≤ a) (h1 : a ≤ 1000000) : wrap64 a = a := by unfold wrap64; omega

/-- What a take-back makes of the nodes, whatever they are; and of a join's. -/
structure Cut (n : Nat) (F F' : Nat → Int) (c : Nat) (l : Int) : Prop where
  par : ∀ i, i < n → ∃ q : Nat, q < n ∧ F' (i * 4) = (q : Int)
  good : ∀ (g : Uf.G) (r : Nat), c ≠ r → r < n → (g.N c).par = c → l = ((g.N r).lst : Int) → (g.N r).siz + (g.N c).siz ≤ 100000 → (∀ j, j < n * 4 → intC F j = nodeC (Uf.hang g c r) j) → ∀ j, j < n * 4 → intC F' j = nodeC g j

end Go.Proofs.Ytinphcnknionmab

namespace Go.Proofs.Ytinphcnknionmab
open Go.RowKit

/-- Where the bracket closes, with so many open ones. -/
def clo (s : ByteArray) (k o : Nat) : Nat :=
  if k < s.size then
    if (if byt s k = 40 then o + 1 else if byt s k = 41 then o - 1 else o) = 0 then k + 1 else clo s (k + 1) (if byt s k = 40 then o + 1 else if byt s k = 41 then o - 1 else o)
  else s.size
termination_by s.size - k
decreasing_by omega

theorem clo_in {s : ByteArray} {k o : Nat} (h : k < s.size) : clo s k o = if (if byt s k = 40 then o + 1 else if byt s k = 41 then o - 1 else o) = 0 then k + 1 else clo s (k + 1) (if byt s k = 40 then o + 1 else if byt s k = 41 then o - 1 else o) := by
  rw [clo, if_pos h]
theorem clo_out {s : ByteArray} {k o : Nat} (h : ¬ k < s.size) : clo s k o = s.size := by rw [clo, if_neg h]

/-- Where the term ends that begins at i. -/
def tEnd (s : ByteArray) (i : Nat) : Nat := if byt s (bl s (nmE s i)) = 40 then clo s (bl s (nmE s i)) 0 else nmE s i

theorem ofNm_eq (c : Nat) : ofNm c = isNm c := rfl

theorem made_parser (w : World) (bp : Value) (s : ByteArray) (i d : Nat) (hi : i ≤ s.size) (hs : s.size ≤ 400) :
    Lp (w.alloc (.cells #[bp, .string s, .int .i64 (i : Int), .int .u64 (d : Int)] 87)) w.heap.size bp s i d := by
  refine ⟨World.rowIs.congr (made_row w #[bp, .string s, .int .i64 (i : Int), .int .u64 (d : Int)] 87) ?_, hi, hs⟩
  intro j hj
  have hj' : j < 4 := hj
  rcases (by omega : j = 0 ∨ j = 1 ∨ j = 2 ∨ j = 3) with rfl | rfl | rfl | rfl <;> rfl


theorem Lp.fresh0 {w w' : World} {x : Nat} (K : Kept1 x w w') {w0 : World} (K0 : Kept0 w0 w) (hx : w0.heap.size ≤ x) : Kept0 w0 w' :=
  ⟨K.os.trans K0.os, K.tape.trans K0.tape, K.output.trans K0.output, Nat.le_trans K0.size K.size, fun k hk _ => (K.block k (Nat.lt_of_lt_of_le hk K0.size) (by omega)).trans (K0.block k hk (fun e => e))⟩

theorem bytes_at (w : World) (e : TypeId) (s : ByteArray) (b : Nat) (j : Nat) (hj : j < s.size - b) : (Lib.bytesWorld w e (s.extract b s.size)).cell? ⟨w.heap.size, j, none⟩ = some (.int .u8 (byt s (b + j) : Int)) := by
  have hz : (s.extract b s.size).size = s.size - b := by simp [ByteArray.size_extract]
  rw [Lib.bytesWorld_cell w e _ j (by omega)]
  have h1 : b + j < s.size := by omega
  have h2 : j < (s.extract b s.size).size := by omega
  have h3 : ((s.extract b s.size).data.toList.getD j 0) = s[b + j] := by
    rw [List.getD_eq_getElem?_getD, Array.getElem?_toList]
    have : (s.extract b s.size).data[j]? = some ((s.extract b s.size)[j]) := by
      rw [Array.getElem?_eq_getElem (by simpa using h2)]; rfl
    rw [this, ByteArray.getElem_extract]
    rfl
  rw [h3, byt_lt h1]
theorem bytes_kept {w0 w : World} (K : Kept0 w0 w) (e : TypeId) (S : ByteArray) : Kept0 w0 (Lib.bytesWorld w.drew e S) :=
  Kept.trans K ⟨rfl, rfl, rfl, by rw [Lib.bytesWorld_size]; exact Nat.le_succ _, fun k hk _ => Lib.bytesWorld_at_old w.drew e S k hk⟩

set_option maxRecDepth 100000 in
set_option maxHeartbeats 2000000 in
theorem termEnd_in (w : World) (r p : Nat) (s : ByteArray) (i d : Nat) (h : Lp w r (.pointer (some ⟨p, 0, none⟩)) s i d) :
    Calls Try.prog 70 #[.pointer (some ⟨r, 0, none⟩)] w fun e w' => e = .returned (.int .i64 (tEnd s i : Int)) ∧ Kept0 w w' := by
  have c0 := h.c0
  have c1 := h.c1
  have c2 := h.c2
  have c3 := h.c3
  have M := made_parser w (.pointer (some ⟨p, 0, none⟩)) s i d h.le h.small
  have K0 : Kept0 w (w.alloc (.cells #[.pointer (some ⟨p, 0, none⟩), .string s, .int .i64 (i : Int), .int .u64 (d : Int)] 87)) := Kept.alloc (Kept.refl _ w) _
  go_enter Try.func70, Try.ntmps70
  go_wp2_with fail
  generalize w.alloc (.cells #[.pointer (some ⟨p, 0, none⟩), .string s, .int .i64 (i : Int), .int .u64 (d : Int)] 87) = w1 at M K0 ⊢
  have hx : w.heap.size ≤ w.heap.size := Nat.le_refl _
  have CR : Hid (∀ W, Kept1 w.heap.size w1 W → W.cell? ⟨r, 1, none⟩ = some (.string s) ∧ Kept0 w W) := fun W K => ⟨(h.kept0 (Lp.fresh0 K K0 (Nat.le_refl _))).c1, Lp.fresh0 K K0 (Nat.le_refl _)⟩
  generalize hxx : w.heap.size = x at M hx CR ⊢
  go_loopw [] (fun W => ∃ k : Nat, Lp W x (.pointer (some ⟨p, 0, none⟩)) s k d ∧ Hid (nmE s k = nmE s i) ∧ Hid (Kept1 x w1 W)) (fun W => s.size - (match W.cell? ⟨x, 2, none⟩ with | some v => (intOf v).toNat | none => 0))
  case atStart => exact ⟨i, M, rfl, Kept.refl _ w1⟩
  case round =>
    obtain ⟨k, hR, hb, hK⟩ := hrel
    have NX := next_k wr x (.pointer (some ⟨p, 0, none⟩)) s k d hR
    have hle := hR.le
    have hsm := hR.small
    have c2r := hR.c2
    clear c0 c1 c2 c3
    cases hnm : ofNm (byt s k) with
    | true =>
      have hk1 : k < s.size := by
        refine Decidable.byContradiction fun hh => ?_
        simp [byt, hh, ofNm, isLet, isDig] at hnm
      have NM := fun W => ofName_any W (byt s k)
      rw [hnm] at NM
      have STP : Hid (∀ W, Kept0 wr W → Lp (W.setCell ⟨x, 2, none⟩ (.int .i64 ((k : Int) + 1))) x (.pointer (some ⟨p, 0, none⟩)) s (k + 1) d) := fun W K => by
        have := (hR.kept0 K).step (k := k + 1) (by omega)
        simpa using this
      have HC : Hid (∀ W, Kept0 wr W → W.cell? ⟨x, 2, none⟩ = some (.int .i64 (k : Int)) ∧ W.frozen? ⟨x, 2, none⟩ = false) := fun W K => ⟨(hR.kept0 K).c2, (hR.kept0 K).row.frozen 2⟩
      have hb2 : Hid (nmE s (k + 1) = nmE s i) := (nmE_at hk1 hnm).symm.trans hb
      have HC2 : Hid (wr.cell? ⟨x, 2, none⟩ = some (.int .i64 (k : Int))) := c2r
      clear hR hb c2r hnm
      generalize byt s k = bk at *
      go_wp2_with (first | (go_at_call 57; refine NX.mono ?_; rintro e w3 ⟨rfl, K3⟩; obtain ⟨c2, f2⟩ := HC.out w3 K3) | (go_at_call 72; refine (NM _).mono ?_; rintro e w4 ⟨rfl, rfl⟩))
      refine ⟨⟨k + 1, STP.out w3 K3, hb2, Kept1.set (hK.out.trans (Kept.mono K3 (fun _ _ e => e.elim))) _ _⟩, ?_⟩
      rw [(STP.out w3 K3).c2, HC2.out]
      simp only [intOf]
      omega
    | false =>
      have NM := fun W => ofName_any W (byt s k)
      rw [hnm] at NM
      have e : nmE s i = k := hb.symm.trans (nmE_end (fun hh => by rw [← ofNm_eq, hnm] at hh; cases hh.2))
      have HR : Hid (_ ∧ _) := And.intro hR hK.out
      have HE : Hid (nmE s i = k) := e
      have HB : Hid (∀ W, Kept0 wr W → Lp W x (.pointer (some ⟨p, 0, none⟩)) s k d) := fun W K => hR.kept0 K
      have HC : Hid (∀ W, Kept0 wr W → W.cell? ⟨x, 2, none⟩ = some (.int .i64 (k : Int))) := fun W K => (hR.kept0 K).c2
      clear hb hK c2r hnm e
      clear hR
      generalize byt s k = bk at *
      have NXT : Hid (∀ W, Lp W x (.pointer (some ⟨p, 0, none⟩)) s (bl s k) d → _) := fun W L => next_k W x _ s (bl s k) d L
      have hblk := bl_le hle
      have HT : Hid (tEnd s i = if byt s (bl s k) = 40 then clo s (bl s k) 0 else k) := by show tEnd s i = _; rw [tEnd, HE.out]
      by_cases h40 : byt s (bl s k) = 40
      · rw [h40] at NXT
        go_wp2_with (first | (go_at_call 57; refine NX2.mono ?_; rintro e w5 ⟨rfl, K5⟩; have c52 := (L4.kept0 K5).c2; have CR5 := (CR.out w5 ((HR.out.2.trans (Kept.mono K3 (fun _ _ e => e.elim))).trans (K4.trans (Kept.mono K5 (fun _ _ e => e.elim))))).1) | (go_at_call 57; refine NX.mono ?_; rintro e w3 ⟨rfl, K3⟩; have c2 := HC.out w3 K3; clear NX; have BL := gblanks_in w3 x _ s k d (HB.out w3 K3)) | (go_at_call 72; refine (NM _).mono ?_; rintro e w4 ⟨rfl, rfl⟩) | (go_at_call 49; refine BL.mono ?_; rintro e w4 ⟨rfl, L4, K4⟩; have NX2 := NXT.out w4 L4))
        have HW5 : Hid (Kept0 w w5) := (CR.out w5 ((HR.out.2.trans (Kept.mono K3 (fun _ _ e => e.elim))).trans (K4.trans (Kept.mono K5 (fun _ _ e => e.elim))))).2
        have hbk : ((bl s k : Nat) : Int) ≤ s.size := by omega
        have CV := Lib.run_convert_string_bytes (P := Try.prog) w5.drew 9 90 5 (s.extract (bl s k) s.size) Try.underlying9 Try.underlying90 Try.underlying5
        have hz := ext_size hblk (Nat.le_refl s.size)
        have hlx : x < w5.heap.size := (L4.kept0 K5).row.lt
        clear CR HR HB HC HE K3 K4 K5 L4 BL NX2 NM NXT M K0 hx
        generalize bl s k = b at *
        have CB : Hid (∀ j, j < s.size - b → (Lib.bytesWorld w5.drew 5 (s.extract b s.size)).cell? ⟨w5.heap.size, j, none⟩ = some (.int .u8 (byt s (b + j) : Int))) := bytes_at w5.drew 5 s b
        have KB : Hid (Kept0 w (Lib.bytesWorld w5.drew 5 (s.extract b s.size))) := bytes_kept HW5.out 5 (s.extract b s.size)
        have CX : Hid ((Lib.bytesWorld w5.drew 5 (s.extract b s.size)).cell? ⟨x, 2, none⟩ = some (.int .i64 (b : Int))) := (Lib.bytesWorld_old w5.drew 5 _ ⟨x, 2, none⟩ hlx).trans c52
        clear hlx
        go_region_with fail
        all_goals
          clear CV c52 CR5
          generalize Lib.bytesWorld w5.drew 5 (s.extract b s.size) = w6 at CB KB CX ⊢
          have HL6 : Hid (Lp w6 r (.pointer (some ⟨p, 0, none⟩)) s i d) := h.kept0 KB.out
          have HT2 : Hid (tEnd s i = clo s b 0) := by have := HT.out; rw [if_pos h40] at this; exact this
          have H40 : Hid (byt s b = 40) := h40
          clear HT h h40
          simp only [Act.put, List.getElem_toArray, List.getElem_cons_succ, List.getElem_cons_zero, List.setIfInBounds_toArray, List.set_cons_succ, List.set_cons_zero]
          go_wp2_with fail
          generalize hS : s.extract b s.size = S
          generalize grownCap w5.drew (s.size - b) 0 5 = cp
          generalize w5.heap.size = y at *
          clear hS hz
          go_loopw [5, 32] (fun t5 t32 W => ∃ (j o : Nat), t5 = .int .i64 (o : Int) ∧ t32 = .int .i64 (j : Int) ∧ j ≤ s.size - b ∧ o ≤ j ∧ Hid (clo s b 0 = clo s (b + j) o ∧ (j = 0 ∨ 1 ≤ o)) ∧ Hid (W = w6)) (fun _ t32 _ => s.size - b - (intOf t32).toNat)
          case atStart => exact ⟨0, 0, rfl, rfl, Nat.zero_le _, Nat.le_refl _, ⟨rfl, Or.inl rfl⟩, rfl⟩
          case round =>
            obtain ⟨j, o, rfl, rfl, hj, hoj, HJ, hw⟩ := hrel
            obtain rfl := hw.out
            clear hw
            by_cases hlt : j < s.size - b
            · have cb := CB.out j hlt
              have hlt' : ((j : Nat) : Int) < ((s.size - b : Nat) : Int) := by omega
              have hE := HJ.out.1
              rw [clo_in (o := o) (by omega : b + j < s.size)] at hE
              have ho1 := HJ.out.2
              by_cases e40 : byt s (b + j) = 40
              · rw [e40] at cb
                rw [if_pos e40, if_neg (by omega)] at hE
                have HE2 : Hid (clo s b 0 = clo s (b + (j + 1)) (o + 1)) := hE
                clear hE HJ e40 ho1
                have dno : ((o : Int) + 1 == 0) = false := by simp; omega
                have dno' : ¬ (o : Int) + 1 = 0 := by omega
                go_wp2_with fail
                go_roundw
                case rel => exact ⟨j + 1, o + 1, by simp, by simp, by omega, by omega, ⟨HE2.out, Or.inr (by omega)⟩, by first | exact rfl | exact trivial⟩
                case measure => simp only [intOf]; omega
              · rw [if_neg e40] at hE
                have hj0 : j ≠ 0 := fun e => e40 (by rw [e]; exact H40.out)
                have d40 : ((byt s (b + j) : Int) == 40) = false := by simp; omega
                by_cases e41 : byt s (b + j) = 41
                · rw [e41] at cb
                  rw [if_pos e41] at hE
                  clear d40
                  by_cases o1 : o = 1
                  · rw [if_pos (by omega)] at hE
                    have HE2 : Hid (clo s b 0 = b + j + 1) := hE
                    clear hE HJ e40 e41 ho1
                    subst o1
                    have cx := CX.out
                    go_wp2_with fail
                    go_ret
                    refine ⟨?_, KB.out⟩
                    rw [HT2.out, HE2.out]
                    simp
                  · rw [if_neg (by omega)] at hE
                    have HE2 : Hid (clo s b 0 = clo s (b + (j + 1)) (o - 1)) := hE
                    clear hE HJ e40 e41
                    have dno : ((o : Int) - 1 == 0) = false := by simp; omega
                    have dno' : ¬ (o : Int) - 1 = 0 := by omega
                    go_wp2_with fail
                    go_roundw
                    case rel => exact ⟨j + 1, o - 1, by simp; omega, by simp, by omega, by omega, ⟨HE2.out, Or.inr (by omega)⟩, by first | exact rfl | exact trivial⟩
                    case measure => simp only [intOf]; omega
                · rw [if_neg e41] at hE
                  rw [if_neg (by omega)] at hE
                  have d41 : ((byt s (b + j) : Int) == 41) = false := by simp; omega
                  have HE2 : Hid (clo s b 0 = clo s (b + (j + 1)) o) := hE
                  clear hE HJ e40 e41
                  have dno : ((o : Int) == 0) = false := by simp; omega
                  have dno' : ¬ (o : Int) = 0 := by omega
                  generalize byt s (b + j) = bj at *
                  go_wp2_with fail
                  go_roundw
                  case rel => exact ⟨j + 1, o, rfl, by simp, by omega, by omega, ⟨HE2.out, Or.inr (by omega)⟩, by first | exact rfl | exact trivial⟩
                  case measure => simp only [intOf]; omega
            · have hlt' : ¬ ((j : Nat) : Int) < ((s.size - b : Nat) : Int) := by omega
              have HE2 : Hid (clo s b 0 = s.size) := by
                have := HJ.out.1
                rw [clo_out (o := o) (by omega : ¬ b + j < s.size)] at this
                exact this
              have c1r := HL6.out.c1
              go_wp2_with fail
              go_ret
              refine ⟨?_, KB.out⟩
              rw [HT2.out, HE2.out]
              rfl
      · have dne : ((byt s (bl s k) : Int) != 40) = true := by simp; omega
        generalize byt s (bl s k) = bb at *
        go_wp2_with (first | (go_at_call 57; refine NX2.mono ?_; rintro e w5 ⟨rfl, K5⟩) | (go_at_call 57; refine NX.mono ?_; rintro e w3 ⟨rfl, K3⟩; have c2 := HC.out w3 K3; clear NX; have BL := gblanks_in w3 x _ s k d (HB.out w3 K3)) | (go_at_call 72; refine (NM _).mono ?_; rintro e w4 ⟨rfl, rfl⟩) | (go_at_call 49; refine BL.mono ?_; rintro e w4 ⟨rfl, L4, K4⟩; have NX2 := NXT.out w4 L4))
        go_ret
        refine ⟨?_, (CR.out w5 ((HR.out.2.trans (Kept.mono K3 (fun _ _ e => e.elim))).trans (K4.trans (Kept.mono K5 (fun _ _ e => e.elim))))).2⟩
        rw [HT.out, if_neg h40]
        rfl

end Go.Proofs.Ytinphcnknionmab
