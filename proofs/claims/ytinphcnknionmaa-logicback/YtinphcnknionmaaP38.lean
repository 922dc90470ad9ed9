/- law01.Same. What the constant text says, plainly. law01.alive; what reading keeps. What is read is a formula, of few Forms; the bank keeps to what it keeps to. -/
import Derived.Test.YtinphcnknionmaaP37
import Derived.Deep.RegionHeld3
import Derived.Test.YtinphcnknionmaaLoL
namespace Go.Proofs.Ytinphcnknionmaa
open Go.RowKit

theorem shwB_out {l : List Tm} {n : Int} (h : inB l.length n = false) : shwB l n = ⟨#[]⟩ := by simp [shwB, h]
theorem shwB_in {l : List Tm} {n : Nat} (h : n < l.length) : shwB l (n : Int) = bt (shw l 13 n) := by simp [shwB, inB_nat h, bt]

/-- An answer's box: name and args. -/
theorem ans_box (w : World) (a b : Value) : (w.alloc (.cells #[a, b] 42)).cell? ⟨w.heap.size, 0, none⟩ = some a ∧ (w.alloc (.cells #[a, b] 42)).cell? ⟨w.heap.size, 1, none⟩ = some b :=
  ⟨World.rowIs.cell (made_row w #[a, b] 42) (i := 0) (by simp), World.rowIs.cell (made_row w #[a, b] 42) (i := 1) (by simp)⟩

theorem ans_cells {w6 : World} {B x : Nat} {va : Option Addr} {vc : Nat} {xs : List Nat} {m : Nat} {F : Nat → Value} (O : w6.ownsRow B 3 1 (.slice va xs.length vc) xs.length (argC xs)) (R : w6.rowIs x 42 m F) {i : Nat} (hi : i < xs.length) :
    ∃ gv, va = some ⟨gv, 0, none⟩ ∧ B ≤ gv ∧ gv ≠ x ∧ w6.cell? ⟨gv, i, none⟩ = some (.int .i64 (xs[i]?.getD 0 : Int)) ∧ w6.frozen? ⟨gv, i, none⟩ = false := by
  obtain ⟨gv, cap, hg, hc⟩ := arg_cell (w := w6) (base := B) (xs := xs) O hi
  injection hg with e1 _ e3
  refine ⟨gv, e1, ?_, ?_, ?_, ?_⟩
  · exact (O.lt gv (by rw [e1]; rfl)).1
  · have := row_ne O R (by decide)
    rw [e1] at this
    simpa [Value.ownBlock] using this
  · rw [hc, List.getElem?_eq_getElem hi]; rfl
  · rcases O.2 with ⟨hz, _⟩ | ⟨b, cap', cur, hb, _, hh, _⟩
    · rw [e1] at hz; cases hz
    · rw [e1] at hb
      injection hb with hb1
      injection hb1 with hb2
      injection hb2 with hb3
      subst hb3
      exact Lib.frozen_of_heap hh i

set_option maxHeartbeats 4000000 in
set_option maxRecDepth 100000 in
theorem same_law (w : World) (base p : Nat) (ev : Value) (nb fb : Nat) (l : List Tm) (h : Bk w base p ev nb fb l) (hs : Hs l) (base' : Nat) (av : Value) (vs : List Value) (L : Ls w base' av l vs) :
    Calls Try.prog 19 #[.pointer (some ⟨p, 0, none⟩), av] w fun e w' => e = .returned (.bool true) ∧ Kept0 w w' := by
  have SZ := size_in w base p ev nb fb l h
  have hsm := h.small
  have hoks := h.oks
  obtain ⟨aa, ac, rfl⟩ := L.form
  go_enter Try.func19, Try.ntmps19
  go_wp2_with (first | (go_at_call 21; refine SZ.mono ?_; rintro e w2 ⟨rfl, rfl⟩))
  go_loopw [5] (fun t5 W => ∃ k : Nat, k ≤ l.length + 2 ∧ t5 = .int .i64 ((k : Int) - 1) ∧ Hid (Kept0 w W)) (fun t5 _ => (l.length + 1 - (intOf t5)).toNat)
  case atStart => exact ⟨0, by omega, rfl, Kept.refl _ w⟩
  case round =>
    obtain ⟨k, hk, rfl, KK⟩ := hrel
    have HW := h.kept0 KK.out
    have LW := L.kept0 KK.out
    by_cases hin : 1 ≤ k ∧ k ≤ l.length
    · obtain ⟨n, rfl⟩ : ∃ n, k = n + 1 := ⟨k - 1, by omega⟩
      have hn : n < l.length := by omega
      have ht : l[n]? = some l[n] := List.getElem?_eq_getElem hn
      generalize l[n] = t at ht
      rw [show (((n + 1 : Nat) : Int) - 1) = (n : Int) from by omega]
      have dE : decide ((n : Int) ≤ (l.length : Int)) = true := decide_eq_true (by omega)
      have dL : decide ((n : Int) < 0) = false := decide_eq_false (by omega)
      have dQ : ((n : Int) == (l.length : Int)) = false := beq_eq_false_iff_ne.2 (by omega)
      have TS := term_some wr base p ev nb fb l HW n t ht
      have hok := hoks t (List.mem_of_getElem? ht)
      have ha4 := hok.args
      clear hin
      go_wp2_with (first | (go_at_call 23; refine TS.mono ?_; rintro e w4 ⟨v, rfl, O4, B4⟩; obtain ⟨va, vc, hvv⟩ := row_form O4; subst hvv))
      have K4 : Kept0 wr w4 := Below.kept0 B4
      have K5 : Kept0 w4 (w4.alloc (.cells #[.string t.name, .slice va t.args.length vc] 42)) := Kept.alloc (Kept.refl _ w4) _
      have R5 := made_row w4 #[.string t.name, .slice va t.args.length vc] 42
      generalize w4.alloc (.cells #[.string t.name, .slice va t.args.length vc] 42) = w5 at *
      have K15 : Kept0 wr w5 := Kept.trans K4 K5
      have O5 := O4.kept K5.grownBy (Decidable.em _)
      have H5 := HW.kept0 K15
      have L5 := LW.kept0 K15
      have hxw : wr.heap.size ≤ w4.heap.size := K4.size
      generalize w4.heap.size = x at *
      obtain ⟨g, cap, v', hg, hvn, g0, g1, hv'⟩ := L5.at ht
      injection hg with eg1 _ eg3
      subst eg1 eg3
      obtain ⟨ua, uc, rfl⟩ := row_form hv'
      have x0 : w5.cell? ⟨x, 0, none⟩ = some (.string t.name) := World.rowIs.cell R5 (i := 0) (by simp)
      have x1 : w5.cell? ⟨x, 1, none⟩ = some (.slice va t.args.length vc) := World.rowIs.cell R5 (i := 1) (by simp)
      have SHOW : ∀ W, Kept0 w5 W → Calls Try.prog 22 #[.pointer (some ⟨p, 0, none⟩), .int .i64 (n : Int)] W fun e w' => e = .returned (.string (bt (shw l 13 n))) ∧ Kept0 W w' := fun W K => (show_in W base p ev nb fb l (H5.kept0 K) hs (n : Int)).mono fun e w' hP => ⟨by rw [hP.1, shwB_in hn], Below.kept0 hP.2⟩
      have RSHOW : ∀ W, Kept0 w5 W → Calls Try.prog 71 #[.slice (some ⟨g, 0, none⟩) l.length ac, .int .i64 (n : Int)] W fun e w' => e = .returned (.string (bt (shw l 13 n))) ∧ Kept0 W w' := fun W K => rshow_all 13 W base' _ l vs n (L5.kept0 K) (hs n hn) hoks hsm (Nat.le_refl _)
      have KD : ∀ m, Kept0 w5 (w5.drewN m) := fun m => Kept.drewN (Kept.refl _ w5) m
      generalize bt (shw l 13 n) = Z at SHOW RSHOW
      have stay : ∀ W, Kept0 w5 W → (W.cell? ⟨x, 0, none⟩ = some (.string t.name) ∧ W.cell? ⟨x, 1, none⟩ = some (.slice va t.args.length vc) ∧ W.cell? ⟨g, n * 2, none⟩ = some (.string t.name) ∧ W.cell? ⟨g, n * 2 + 1, none⟩ = some (.slice ua t.args.length uc)) := fun W K => by
        have hc : ∀ {b o : Nat} {u : Value}, w5.cell? ⟨b, o, none⟩ = some u → W.cell? ⟨b, o, none⟩ = some u := fun {b o u} hu => (World.cell?_of_block (K.block b (World.block_lt_of_cell? w5 _ hu) (fun e => e)) ).trans hu
        exact ⟨hc x0, hc x1, hc g0, hc g1⟩
      clear x0 x1 g0 g1
      go_region_held3 (fun W => W.cell? ⟨x, 0, none⟩ = some (.string t.name) ∧ W.cell? ⟨x, 1, none⟩ = some (.slice va t.args.length vc) ∧ W.cell? ⟨g, n * 2, none⟩ = some (.string t.name) ∧ W.cell? ⟨g, n * 2 + 1, none⟩ = some (.slice ua t.args.length uc)) (exact stay _ (by first | assumption | exact KD 1)) (first | (go_at_call 22; refine (SHOW _ (by first | assumption | exact KD 1)).mono ?_; rintro e w6 ⟨rfl, K6⟩; have KS : Kept0 w5 w6 := Kept.trans (by first | assumption | exact KD 1) K6) | (go_at_call 71; refine (RSHOW _ (by first | assumption | exact KD 1)).mono ?_; rintro e w6 ⟨rfl, K6⟩; have KS : Kept0 w5 w6 := Kept.trans (by first | assumption | exact KD 1) K6))
      all_goals
        have O6 : w6.ownsRow wr.heap.size 3 1 (.slice va t.args.length vc) t.args.length (argC t.args) := O5.kept KS.grownBy (Decidable.em _)
        have R6 := World.rowIs.of_block R5 (KS.block x (World.rowIs.lt R5) (fun e => e))
        have K6w : Hid (Kept0 wr w6) := Kept.trans K15 KS
        have cells6 : ∀ i, i < t.args.length → ∃ gv, va = some ⟨gv, 0, none⟩ ∧ wr.heap.size ≤ gv ∧ gv ≠ x ∧ w6.cell? ⟨gv, i, none⟩ = some (.int .i64 (t.args[i]?.getD 0 : Int)) ∧ w6.frozen? ⟨gv, i, none⟩ = false := fun i hi => ans_cells O6 R6 hi
        have A6 : ∀ i, i < t.args.length → w6.cell? ⟨x, 1, none⟩ = some (.slice va t.args.length vc) := fun _ _ => World.rowIs.cell R6 (i := 1) (by simp)
        have x1 : w6.cell? ⟨x, 1, none⟩ = some (.slice va t.args.length vc) := World.rowIs.cell R6 (i := 1) (by simp)
        clear SHOW RSHOW stay KD O5 O6 R5 R6 K4 B4 K5 O4 TS
        go_wp2_with fail
        go_loopw [8] (fun t8 W => ∃ j : Nat, j ≤ t.args.length ∧ t8 = .int .i64 (j : Int) ∧ Hid (Kept0 wr W) ∧ W.cell? ⟨x, 1, none⟩ = some (.slice va t.args.length vc) ∧ Hid (∀ i, j ≤ i → i < t.args.length → ∃ gv, va = some ⟨gv, 0, none⟩ ∧ wr.heap.size ≤ gv ∧ gv ≠ x ∧ W.cell? ⟨gv, i, none⟩ = some (.int .i64 (t.args[i]?.getD 0 : Int)) ∧ W.frozen? ⟨gv, i, none⟩ = false)) (fun t8 _ => t.args.length - (intOf t8).toNat)
        case atStart => exact ⟨0, by omega, rfl, K6w, x1, fun i _ hi => cells6 i hi⟩
        case round =>
          obtain ⟨j, hj, rfl, KJ, xj, CJ⟩ := hrel
          clear x1 A6 cells6 K6w
          have LJ := LW.kept0 KJ.out
          obtain ⟨gl, capl, vl, hgl, _, gl0, gl1, hvl⟩ := LJ.at ht
          injection hgl with q1 _ q3
          injection q1 with q2
          injection q2 with q4
          subst q4 q3
          obtain ⟨la, lc, rfl⟩ := row_form hvl
          by_cases hj2 : j < t.args.length
          · have dj : decide ((j : Int) < (t.args.length : Int)) = true := decide_eq_true (by omega)
            obtain ⟨gv, hva, hgw, hgx, cj, fj⟩ := CJ.out j (Nat.le_refl _) hj2
            subst hva
            obtain ⟨ga, gc, hga, cl⟩ := arg_cell hvl hj2
            injection hga with r1 _ r3
            subst r1 r3
            have hgj : t.args[j]?.getD 0 = t.args[j] := by rw [List.getElem?_eq_getElem hj2]; rfl
            rw [hgj] at cj
            have dne : ((t.args[j] : Int) != (t.args[j] : Int)) = false := by simp
            go_wp2_with fail
            go_quiet (fail)
            go_wp2_with fail
            go_roundw
            case rel =>
              refine ⟨j + 1, by omega, by go_num, ?_, ?_, fun i hi1 hi2 => ?_⟩
              · exact Kept.mono (Kept.setCell (S := fun k => _ ≤ k) (p := ⟨gv, j, none⟩) (Kept.drewN (Kept.mono KJ.out (fun _ _ e => e.elim)) nq) hgw _) (fun k hk e => by omega)
              · exact (World.cell?_setCell_other _ _ _ _ (fun e => hgx (by injection e))).trans xj
              · obtain ⟨gv2, hva2, w2, w3, w4, w5⟩ := CJ.out i (by omega) hi2
                injection hva2 with z1
                injection z1 with z2
                subst z2
                exact ⟨gv, rfl, w2, w3, (World.cell?_setCell_other _ _ _ _ (fun e => by injection e with _ e2; omega)).trans w4, by simpa using w5⟩
            case measure => simp [intOf]; omega
          · have dj : decide ((j : Int) < (t.args.length : Int)) = false := decide_eq_false (by omega)
            go_wp2_with fail
            refine ⟨⟨n + 2, by omega, by rw [show (((n + 2 : Nat) : Int) - 1) = (n : Int) + 1 from by omega], Kept.trans KK.out KJ.out⟩, ?_⟩
            simp [intOf]
            omega
    · by_cases hend : k = l.length + 2
      · have dE : decide ((k : Int) - 1 ≤ (l.length : Int)) = false := decide_eq_false (by omega)
        clear hend
        go_wp2_with fail
        go_ret
        exact ⟨rfl, KK.out⟩
      · have dE : decide ((k : Int) - 1 ≤ (l.length : Int)) = true := decide_eq_true (by omega)
        have hi : inB l.length ((k : Int) - 1) = false := decide_eq_false (by omega)
        have TO := term_out wr base p ev nb fb l HW ((k : Int) - 1) hi
        by_cases h0 : k = 0
        · subst h0
          go_wp2_with (first | (go_at_call 23; refine TO.mono ?_; rintro e w4 ⟨rfl, B4⟩; have H4 := HW.below HW.low B4; have y4 := ans_box w4 (.string ⟨#[]⟩) (.slice none 0 0); have y0 := y4.1; have y1 := y4.2; have K5 : Kept0 w4 (w4.alloc (.cells #[.string ⟨#[]⟩, .slice none 0 0] 42)) := Kept.alloc (Kept.refl _ w4) _; have SH := show_in _ base p ev nb fb l (H4.kept0 K5) hs (((0 : Nat) : Int) - 1); rw [shwB_out hi] at SH) | (go_at_call 22; refine SH.mono ?_; rintro e w6 ⟨rfl, B6⟩))
          exact ⟨⟨1, by omega, by simp, Kept.trans KK.out (Kept.trans (Kept.trans (Below.kept0 B4) K5) (Below.kept0 B6))⟩, by simp [intOf]; omega⟩
        · have dL : decide ((k : Int) - 1 < 0) = false := decide_eq_false (by omega)
          have dQ : ((k : Int) - 1 == (l.length : Int)) = true := beq_iff_eq.2 (by omega)
          have hkk : Hid (k = l.length + 1) := by show _ = _; omega
          clear h0 hend hin
          go_wp2_with (first | (go_at_call 23; refine TO.mono ?_; rintro e w4 ⟨rfl, B4⟩; have H4 := HW.below HW.low B4; have y4 := ans_box w4 (.string ⟨#[]⟩) (.slice none 0 0); have y0 := y4.1; have y1 := y4.2; have K5 : Kept0 w4 (w4.alloc (.cells #[.string ⟨#[]⟩, .slice none 0 0] 42)) := Kept.alloc (Kept.refl _ w4) _; have SH := show_in _ base p ev nb fb l (H4.kept0 K5) hs ((k : Int) - 1); rw [shwB_out hi] at SH) | (go_at_call 22; refine SH.mono ?_; rintro e w6 ⟨rfl, B6⟩))
          have := hkk.out
          refine ⟨⟨k + 1, by omega, by simp, Kept.trans KK.out (Kept.trans (Kept.trans (Below.kept0 B4) K5) (Below.kept0 B6))⟩, ?_⟩
          simp [intOf]
          omega

end Go.Proofs.Ytinphcnknionmaa

namespace Go.Proofs.Ytinphcnknionmaa
open Go.RowKit

/-- f(a, g(a)) -/
def txt : ByteArray := ⟨#[102, 40, 97, 44, 32, 103, 40, 97, 41, 41]⟩
def tA : Tm := ⟨⟨#[97]⟩, []⟩
def tG : Tm := ⟨⟨#[103]⟩, [0]⟩
def tF : Tm := ⟨⟨#[102]⟩, [0, 1]⟩

theorem tx_size : txt.size = 10 := rfl
theorem tx_n0 : nmE txt 0 = 1 := by rw [nmE_at (by decide) (by decide), nmE_end (by decide)]
theorem tx_n2 : nmE txt 2 = 3 := by rw [nmE_at (by decide) (by decide), nmE_end (by decide)]
theorem tx_n5 : nmE txt 5 = 6 := by rw [nmE_at (by decide) (by decide), nmE_end (by decide)]
theorem tx_n7 : nmE txt 7 = 8 := by rw [nmE_at (by decide) (by decide), nmE_end (by decide)]
theorem tx_b0 : bl txt 0 = 0 := bl_end (by decide)
theorem tx_b1 : bl txt 1 = 1 := bl_end (by decide)
theorem tx_b2 : bl txt 2 = 2 := bl_end (by decide)
theorem tx_b3 : bl txt 3 = 3 := bl_end (by decide)
theorem tx_b4 : bl txt 4 = 5 := by rw [bl_at (by decide) (by decide), bl_end (by decide)]
theorem tx_b6 : bl txt 6 = 6 := bl_end (by decide)
theorem tx_b7 : bl txt 7 = 7 := bl_end (by decide)
theorem tx_b8 : bl txt 8 = 8 := bl_end (by decide)
theorem tx_b9 : bl txt 9 = 9 := bl_end (by decide)
theorem tx_b10 : bl txt 10 = 10 := bl_end (by decide)
theorem tx_w0 : badNm txt 0 = false := by simp only [badNm, tx_n0]; decide
theorem tx_w2 : badNm txt 2 = false := by simp only [badNm, tx_n2]; decide
theorem tx_w5 : badNm txt 5 = false := by simp only [badNm, tx_n5]; decide
theorem tx_w7 : badNm txt 7 = false := by simp only [badNm, tx_n7]; decide
theorem tx_h1 : behind txt 1 40 = 2 := by rw [behind_true (by decide)]; exact tx_b2
theorem tx_h6 : behind txt 6 40 = 7 := by rw [behind_true (by decide)]; exact tx_b7
theorem tx_h3 : behind txt 3 44 = 5 := by rw [behind_true (by decide)]; exact tx_b4
theorem tx_h8 : behind txt 8 41 = 9 := by rw [behind_true (by decide)]; exact tx_b9
theorem tx_h9 : behind txt 9 41 = 10 := by rw [behind_true (by decide)]; exact tx_b10

theorem tx_a2 (f d : Nat) (hd : ¬ 12 < d) : pTerm txt (f + 1) d 2 [] = .ok 0 3 [tA] := by
  rw [pTerm, tx_w2, tx_n2, tx_b3]
  simp only [Bool.false_eq_true, if_false, hd, show stands txt 3 40 = false from by decide]
  rfl
theorem tx_a7 (f d : Nat) (hd : ¬ 12 < d) : pTerm txt (f + 1) d 7 [tA] = .ok 0 8 [tA] := by
  rw [pTerm, tx_w7, tx_n7, tx_b8]
  simp only [Bool.false_eq_true, if_false, hd, show stands txt 8 40 = false from by decide]
  rfl
theorem tx_g (f d : Nat) (hd : ¬ 11 < d) : pTerm txt (f + 3) d 5 [tA] = .ok 1 9 [tA, tG] := by
  rw [pTerm, tx_w5, tx_n5, tx_b6, tx_h6]
  simp only [Bool.false_eq_true, if_false, show ¬ 12 < d from by omega, show stands txt 6 40 = true from by decide, if_true]
  rw [pArgs, if_neg (by decide), if_neg (by decide), tx_a7 f (d + 1) (by omega)]
  simp only [show stands txt 8 41 = true from by decide, if_true, tx_h8]
  rfl
theorem tx_f (f : Nat) : pTerm txt (f + 6) 0 0 [] = .ok 2 10 [tA, tG, tF] := by
  rw [pTerm, tx_w0, tx_n0, tx_b1, tx_h1]
  simp only [Bool.false_eq_true, if_false, show ¬ 12 < 0 from by omega, show stands txt 1 40 = true from by decide, if_true]
  rw [pArgs, if_neg (by decide), if_neg (by decide), tx_a2 (f + 3) (0 + 1) (by omega)]
  simp only [show stands txt 3 41 = false from by decide, Bool.false_eq_true, if_false, show stands txt 3 44 = true from by decide, if_true, tx_h3]
  rw [pArgs, if_neg (by decide), if_neg (by decide), tx_g f (0 + 1) (by omega)]
  simp only [show stands txt 9 41 = true from by decide, if_true, tx_h9]
  rfl
theorem tx_read : pRead txt [] = (2, 0, 0, [tA, tG, tF]) := by
  rw [pRead, if_neg (by decide), pWhole, tx_b0, show 2 * txt.size + 1 = 15 + 6 from rfl, tx_f 15]
  rfl
theorem tx_shw : shw [tA, tG, tF] 13 2 = [102, 40, 97, 44, 103, 40, 97, 41, 41] := by rfl
theorem Hs_nil : Hs [] := fun n hn => absurd hn (by simp)
theorem Good_nil : Good [] := ⟨by simp, by simp⟩

end Go.Proofs.Ytinphcnknionmaa

namespace Go.Proofs.Ytinphcnknionmaa
open Go.RowKit

/-- What a bank keeps to. -/
structure Kp (l : List Tm) : Prop where
  hs : Hs l
  good : Good l
  len : l.length ≤ 150

theorem Kp.nil : Kp [] := ⟨Hs_nil, Good_nil, by simp⟩
theorem Kp.read {l : List Tm} (h : Kp l) (s : ByteArray) : Kp (pRead s l).2.2.2 := by
  unfold pRead
  split
  · exact h
  · unfold pWhole
    have hb := bl_le (s := s) (i := 0) (by omega)
    split
    · exact h
    · next n k l' hx =>
      split
      · exact h
      · split
        · exact h
        · exact ⟨((p_hs s _).1 0 (bl s 0) l n k l' hb h.hs hx).1, (p_good s _).1 0 (bl s 0) l n k l' hb h.good hx, by show l'.length ≤ 150; omega⟩

set_option maxHeartbeats 400000 in
theorem num1_any (w : World) (a : Int) : Calls Try.prog 18 #[.int .i64 a] w fun e w' => e = .returned (.int .i64 a) ∧ w = w' := by
  go_enter Try.func18, Try.ntmps18
  go_wp2
  go_ret
  exact ⟨rfl, rfl⟩

set_option maxHeartbeats 2000000 in
set_option maxRecDepth 100000 in
theorem alive1_any (w : World) : Calls Try.prog 20 #[] w fun e w' => e = .returned (.bool true) ∧ Below w.heap.size w w' := by
  have NEW := tNew_any w
  have hKt : Kp [tA, tG, tF] := by have := Kp.nil.read txt; rw [tx_read] at this; exact this
  have TSX : ∀ (w2 : World) (p : Nat) (ev2 : Value) (nb fb : Nat), Bk w2 w.heap.size p ev2 nb fb [tA, tG, tF] → Calls Try.prog 23 #[.pointer (some ⟨p, 0, none⟩), .int .i64 2] w2 fun e w3 => ∃ g vc, e = .returned (.tuple #[.agg #[.string ⟨#[102]⟩, .slice (some ⟨g, 0, none⟩) 2 vc], .bool true]) ∧ w3.cell? ⟨g, 1, none⟩ = some (.int .i64 1) ∧ Below w2.heap.size w2 w3 := by
    intro w2 p ev2 nb fb H2
    refine (term_some w2 w.heap.size p ev2 nb fb _ H2 2 tF rfl).mono ?_
    rintro e w3 ⟨v, he, O3, B3⟩
    obtain ⟨g, cap, hv, hc⟩ := arg_cell (xs := tF.args) O3 (j := 1) (by decide)
    exact ⟨g, cap, by rw [he, hv]; rfl, hc, B3⟩
  have hsh : shwB [tA, tG, tF] 2 = ⟨#[102, 40, 97, 44, 103, 40, 97, 41, 41]⟩ := by
    have := shwB_in (l := [tA, tG, tF]) (n := 2) (by decide)
    rw [tx_shw] at this
    exact this
  go_enter Try.func20, Try.ntmps20
  go_wp2_with (first | (go_at_call 15; refine NEW.mono ?_; rintro e w1 ⟨p, nb, fb, rfl, H1, B1⟩; have RD := tRead_in w1 w.heap.size p _ nb fb [] H1 (by simp) B1.size txt; rw [tx_read] at RD; unfold txt at RD) | (go_at_call 16; refine RD.mono ?_; rintro e w2 ⟨rfl, ev2, H2, K2, _⟩; have TS := TSX w2 p ev2 nb fb H2) | (go_at_call 23; refine TS.mono ?_; rintro e w3 ⟨g, vc, rfl, c3, B3⟩; have H3 := H2.below H2.low B3; have y4 := ans_box w3 (.string ⟨#[102]⟩) (.slice (some ⟨g, 0, none⟩) 2 vc); have K4 : Kept0 w3 (w3.alloc (.cells #[.string ⟨#[102]⟩, .slice (some ⟨g, 0, none⟩) 2 vc] 42)) := Kept.alloc (Kept.refl _ w3) _; have SZ := size_in _ w.heap.size p ev2 nb fb _ (H3.kept0 K4); have SH := show_in _ w.heap.size p ev2 nb fb _ (H3.kept0 K4) hKt.hs 2; rw [hsh] at SH; have c4 := (World.cell?_of_block (K4.block g (World.block_lt_of_cell? w3 _ c3) (fun e => e))).trans c3) | (go_at_call 18; refine (num1_any _ _).mono ?_; rintro e w9 ⟨rfl, rfl⟩) | (go_at_call 21; refine SZ.mono ?_; rintro e w9 ⟨rfl, rfl⟩) | (go_at_call 22; refine SH.mono ?_; rintro e w5 ⟨rfl, B5⟩; have d0 := (B5.cell (World.block_lt_of_cell? _ _ y4.1)).trans y4.1; have d1 := (B5.cell (World.block_lt_of_cell? _ _ y4.2)).trans y4.2; have d2 := (B5.cell (World.block_lt_of_cell? _ _ c4)).trans c4))
  go_ret
  have b2 : Below w.heap.size w1 w2 := Kept.below K2 B1.size (fun k e => by
    rcases e with e | e | e | e
    · rw [e]; exact H1.bp
    · rw [e]; exact H1.bn
    · rw [e]; exact H1.bf
    · simp [Value.ownBlock] at e)
  have s1 := B1.size
  have s2 := b2.size
  have s3 := B3.size
  have s4 := K4.size
  exact ⟨rfl, (((B1.trans b2).trans (B3.mono (by omega))).trans (Kept.below K4 (by omega) (fun _ e => e.elim))).trans (B5.mono (by omega))⟩

end Go.Proofs.Ytinphcnknionmaa

namespace Go.Proofs.Ytinphcnknionmaa

theorem szF_eq (a b : Int) : szF (.eq a b) = 1 := by simp [Fo.eq, szF]
theorem szF_neg (f : Fo) : szF (.neg f) = szF f + 2 := by simp [Fo.neg, szF]; omega
theorem szF_two (o : Int) (ho : o = 2 ∨ o = 3 ∨ o = 4) (f g : Fo) : szF (.two o f g) = szF f + szF g + 3 := by
  have h0 : ¬ o = 0 := by rcases ho with rfl | rfl | rfl <;> decide
  simp [Fo.two, szF, h0]
  omega
theorem wf_neg {f : Fo} (h : WfF f) : WfF (.neg f) := .neg f h
theorem wf_two {o : Int} (ho : o = 2 ∨ o = 3 ∨ o = 4) {f g : Fo} (h : WfF f) (k : WfF g) : WfF (.two o f g) := .two o f g ho h k
theorem opn_or (lev : Nat) : opn lev = 2 ∨ opn lev = 3 ∨ opn lev = 4 := by
  unfold opn
  split
  · exact Or.inr (Or.inl rfl)
  · exact Or.inl rfl

theorem lTerm_kp {s : ByteArray} {i : Nat} {l : List Tm} (h : Kp l) : Kp (lTerm s i l).list := by
  unfold lTerm
  split <;> exact h.read _

def NiceR (i : Nat) : Res Fo → Prop
  | .ok a k l => WfF a ∧ szF a + 3 * i ≤ 3 * k ∧ Kp l
  | .bad _ _ l => Kp l

theorem gEqu_nice {s : ByteArray} {i : Nat} {l : List Tm} (hi : i ≤ s.size) (h : Kp l) : NiceR i (gEqu s i l) := by
  unfold gEqu
  have k1 := lTerm_kp (s := s) (i := i) h
  cases h1 : lTerm s i l with
  | bad e p l1 => rw [h1] at k1; exact k1
  | ok a k l1 =>
    rw [h1] at k1
    obtain ⟨b1, b2⟩ := lTerm_ok hi h1
    simp only [Res.bind]
    have hq1 : k ≤ (if byt s k = 33 then k + 1 else k) := by split <;> omega
    have hq2 : byt s k = 33 → (if byt s k = 33 then k + 1 else k) = k + 1 := fun h => if_pos h
    generalize (if byt s k = 33 then k + 1 else k) = q at hq1 hq2 ⊢
    cases hs : stands s q 61 with
    | false => simp only [Bool.false_eq_true, if_false]; exact k1
    | true =>
      simp only [if_true]
      have hk := (of_decide_eq_true hs).1
      have hbl := bl_le (s := s) (i := q + 1) (by omega)
      have hbg := bl_ge s (q + 1)
      have k2 := lTerm_kp (s := s) (i := bl s (q + 1)) (l := l1) k1
      cases h2 : lTerm s (bl s (q + 1)) l1 with
      | bad e p l2 => rw [h2] at k2; exact k2
      | ok b k3 l2 =>
        rw [h2] at k2
        obtain ⟨c1, c2⟩ := lTerm_ok hbl h2
        simp only
        by_cases h33 : byt s k = 33
        · rw [if_pos h33]
          have := hq2 h33
          refine ⟨wf_neg (.eq _ _), ?_, k2⟩
          rw [szF_neg, szF_eq]
          omega
        · rw [if_neg h33]
          refine ⟨.eq _ _, ?_, k2⟩
          have : szF (Fo.eq (a : Int) (b : Int)) = 1 := szF_eq _ _
          show szF (Fo.eq (a : Int) (b : Int)) + _ ≤ _
          omega

theorem gp_nice (s : ByteArray) : ∀ f : Nat, (∀ lev d i l, i ≤ s.size → Kp l → NiceR i (gp s f lev d i l)) ∧
    (∀ lev d i l a i0, i ≤ s.size → Kp l → WfF a → szF a + 3 * i0 ≤ 3 * i → NiceR i0 (gl s f lev d i l a))
  | 0 => ⟨fun _ _ _ _ _ h => (by rw [gp]; exact h), fun _ _ _ _ _ _ _ h _ _ => (by rw [gl]; exact h)⟩
  | f + 1 => by
    obtain ⟨IP, IL⟩ := gp_nice s f
    obtain ⟨GP, GL⟩ := gp_ok s f
    constructor
    · intro lev d i l hi h
      rw [gp]
      split
      · have n1 := IP 1 d i l hi h
        cases h1 : gp s f 1 d i l with
        | bad e p l1 => rw [h1] at n1; exact n1
        | ok a1 k1 l1 =>
          rw [h1] at n1
          obtain ⟨w1, z1, q1⟩ := n1
          obtain ⟨b1, b2⟩ := GP _ _ _ _ _ _ _ hi h1
          simp only [Res.bind]
          split
          · split
            · next hs =>
              have hk := (of_decide_eq_true hs).1
              have hbl := bl_le (s := s) (i := k1 + 1 + 1) (by omega)
              have hbg := bl_ge s (k1 + 1 + 1)
              have n2 := IP 0 d (bl s (k1 + 1 + 1)) l1 hbl q1
              cases h2 : gp s f 0 d (bl s (k1 + 1 + 1)) l1 with
              | bad e p l2 => rw [h2] at n2; exact n2
              | ok b k2 l2 =>
                rw [h2] at n2
                obtain ⟨w2, z2, q2⟩ := n2
                refine ⟨wf_two (Or.inr (Or.inr rfl)) w1 w2, ?_, q2⟩
                rw [szF_two 4 (Or.inr (Or.inr rfl))]
                omega
            · exact q1
          · exact ⟨w1, z1, q1⟩
      · split
        · split
          · next h33 =>
            have hi2 := byt_in h33 (by omega)
            have hbl := bl_le (s := s) (i := i + 1) (by omega)
            have hbg := bl_ge s (i + 1)
            split
            · exact h
            · have n1 := IP 3 (d + 1) (bl s (i + 1)) l hbl h
              cases h1 : gp s f 3 (d + 1) (bl s (i + 1)) l with
              | bad e p l1 => rw [h1] at n1; exact n1
              | ok a1 k1 l1 =>
                rw [h1] at n1
                obtain ⟨w1, z1, q1⟩ := n1
                refine ⟨wf_neg w1, ?_, q1⟩
                rw [szF_neg]
                omega
          · split
            · next h40 =>
              have hi2 := byt_in h40 (by omega)
              have hbl := bl_le (s := s) (i := i + 1) (by omega)
              have hbg := bl_ge s (i + 1)
              split
              · exact h
              · have n1 := IP 0 (d + 1) (bl s (i + 1)) l hbl h
                cases h1 : gp s f 0 (d + 1) (bl s (i + 1)) l with
                | bad e p l1 => rw [h1] at n1; exact n1
                | ok a1 k1 l1 =>
                  rw [h1] at n1
                  obtain ⟨w1, z1, q1⟩ := n1
                  simp only [Res.bind]
                  split
                  · next hs =>
                    have hbg2 := bl_ge s (k1 + 1)
                    refine ⟨w1, ?_, q1⟩
                    omega
                  · exact q1
            · exact gEqu_nice hi h
        · have n1 := IP (lev + 1) d i l hi h
          cases h1 : gp s f (lev + 1) d i l with
          | bad e p l1 => rw [h1] at n1; exact n1
          | ok a1 k1 l1 =>
            rw [h1] at n1
            obtain ⟨w1, z1, q1⟩ := n1
            obtain ⟨b1, b2⟩ := GP _ _ _ _ _ _ _ hi h1
            simp only [Res.bind]
            exact IL lev d k1 l1 a1 i b2 q1 w1 z1
    · intro lev d i l a i0 hi h wa za
      rw [gl]
      split
      · next hb =>
        have hi2 := byt_in hb (by unfold sgn; split <;> omega)
        have hbl := bl_le (s := s) (i := i + 1) (by omega)
        have hbg := bl_ge s (i + 1)
        have n1 := IP (lev + 1) d (bl s (i + 1)) l hbl h
        cases h1 : gp s f (lev + 1) d (bl s (i + 1)) l with
        | bad e p l1 => rw [h1] at n1; exact n1
        | ok a1 k1 l1 =>
          rw [h1] at n1
          obtain ⟨w1, z1, q1⟩ := n1
          obtain ⟨b1, b2⟩ := GP _ _ _ _ _ _ _ hbl h1
          simp only [Res.bind]
          refine IL lev d k1 l1 _ i0 b2 q1 (wf_two (opn_or lev) wa w1) ?_
          rw [szF_two _ (opn_or lev)]
          omega
      · exact ⟨wa, za, h⟩

/-- Of a text. -/
theorem gParse_nice (s : ByteArray) (l : List Tm) (h : Kp l) : WfF (gParse s l).1 ∧ szF (gParse s l).1 ≤ 1201 ∧ Kp (gParse s l).2.2.2 := by
  unfold gParse
  split
  · exact ⟨.eq _ _, by rw [szF_eq]; omega, h⟩
  · next hs =>
    unfold gWhole
    have hb := bl_le (s := s) (i := 0) (by omega)
    have n := (gp_nice s (6 * s.size + 5)).1 0 0 (bl s 0) l hb h
    cases h1 : gp s (6 * s.size + 5) 0 0 (bl s 0) l with
    | bad c q l' => rw [h1] at n; exact ⟨.eq _ _, by rw [szF_eq]; omega, n⟩
    | ok f k l' =>
      rw [h1] at n
      obtain ⟨w1, z1, q1⟩ := n
      obtain ⟨b1, b2⟩ := (gp_ok s (6 * s.size + 5)).1 _ _ _ _ _ _ _ hb h1
      simp only
      split
      · exact ⟨.eq _ _, by rw [szF_eq]; omega, q1⟩
      · exact ⟨w1, by simp only; omega, q1⟩

end Go.Proofs.Ytinphcnknionmaa
