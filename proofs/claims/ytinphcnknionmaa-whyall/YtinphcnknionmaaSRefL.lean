/- law01.Same. -/
import Derived.Test.YtinphcnknionmaaG31
import Derived.Deep.RegionHeld3
namespace Go.Proofs.Ytinphcnknionmaa
open Go.RowKit

theorem shwB_out {l : List Tm} {n : Int} (h : inB l.length n = false) : shwB l n = ⟨#[]⟩ := by simp [shwB, h]
theorem shwB_in {l : List Tm} {n : Nat} (h : n < l.length) : shwB l (n : Int) = bt (shw l 13 n) := by simp [shwB, inB_nat h, bt]

/-- An answer's box: name and args. -/
theorem ans_box (w : World) (a b : Value) : (w.alloc (.cells #[a, b] 42)).cell? ⟨w.heap.size, 0, none⟩ = some a ∧ (w.alloc (.cells #[a, b] 42)).cell? ⟨w.heap.size, 1, none⟩ = some b :=
  ⟨World.rowIs.cell (made_row w #[a, b] 42) (i := 0) (by simp), World.rowIs.cell (made_row w #[a, b] 42) (i := 1) (by simp)⟩

theorem ans_cells {w6 : World} {B x : Nat} {va : Option Addr} {vc : Nat} {xs : List Nat} {m : Nat} {F : Nat → Value} (O : w6.ownsRow B 3 1 (.slice va xs.length vc) xs.length (argC xs)) (R : w6.rowIs x 42 m F) {i : Nat} (hi : i < xs.length) :
    ∃ gv, va = some ⟨gv, 0, none⟩ ∧ B ≤ gv ∧ gv ≠ x ∧ w6.cell? ⟨gv, i, none⟩ = some (.int .i64 (xs[i]?.getD 0 : Int)) ∧ w6.frozen? ⟨gv, i, none⟩ = false := by
  obtain ⟨gv, cap, hg, hc⟩ := arg_cell (w := w6) (base := B) (xs := xs) O hi
  injection hg with e1 _ e3
  refine ⟨gv, e1, ?_, ?_, ?_, ?_⟩
  · exact (O.lt gv (by rw [e1]; rfl)).1
  · have := row_ne O R (by decide)
    rw [e1] at this
    simpa [Value.ownBlock] using this
  · rw [hc, List.getElem?_eq_getElem hi]; rfl
  · rcases O.2 with ⟨hz, _⟩ | ⟨b, cap', cur, hb, _, hh, _⟩
    · rw [e1] at hz; cases hz
    · rw [e1] at hb
      injection hb with hb1
      injection hb1 with hb2
      injection hb2 with hb3
      subst hb3
      exact Lib.frozen_of_heap hh i

set_option maxHeartbeats 4000000 in
set_option maxRecDepth 100000 in
theorem same_law (w : World) (base p : Nat) (ev : Value) (nb fb : Nat) (l : List Tm) (h : Bk w base p ev nb fb l) (hs : Hs l) (base' : Nat) (av : Value) (vs : List Value) (L : Ls w base' av l vs) :
    Calls Try.prog 19 #[.pointer (some ⟨p, 0, none⟩), av] w fun e w' => e = .returned (.bool true) ∧ Kept0 w w' := by
  have SZ := size_in w base p ev nb fb l h
  have hsm := h.small
  have hoks := h.oks
  obtain ⟨aa, ac, rfl⟩ := L.form
  go_enter Try.func19, Try.ntmps19
  go_wp2_with (first | (go_at_call 21; refine SZ.mono ?_; rintro e w2 ⟨rfl, rfl⟩))
  go_loopw [5] (fun t5 W => ∃ k : Nat, k ≤ l.length + 2 ∧ t5 = .int .i64 ((k : Int) - 1) ∧ Hid (Kept0 w W)) (fun t5 _ => (l.length + 1 - (intOf t5)).toNat)
  case atStart => exact ⟨0, by omega, rfl, Kept.refl _ w⟩
  case round =>
    obtain ⟨k, hk, rfl, KK⟩ := hrel
    have HW := h.kept0 KK.out
    have LW := L.kept0 KK.out
    by_cases hin : 1 ≤ k ∧ k ≤ l.length
    · obtain ⟨n, rfl⟩ : ∃ n, k = n + 1 := ⟨k - 1, by omega⟩
      have hn : n < l.length := by omega
      have ht : l[n]? = some l[n] := List.getElem?_eq_getElem hn
      generalize l[n] = t at ht
      rw [show (((n + 1 : Nat) : Int) - 1) = (n : Int) from by omega]
      have dE : decide ((n : Int) ≤ (l.length : Int)) = true := decide_eq_true (by omega)
      have dL : decide ((n : Int) < 0) = false := decide_eq_false (by omega)
      have dQ : ((n : Int) == (l.length : Int)) = false := beq_eq_false_iff_ne.2 (by omega)
      have TS := term_some wr base p ev nb fb l HW n t ht
      have hok := hoks t (List.mem_of_getElem? ht)
      have ha4 := hok.args
      clear hin
      go_wp2_with (first | (go_at_call 23; refine TS.mono ?_; rintro e w4 ⟨v, rfl, O4, B4⟩; obtain ⟨va, vc, hvv⟩ := row_form O4; subst hvv))
      have K4 : Kept0 wr w4 := Below.kept0 B4
      have K5 : Kept0 w4 (w4.alloc (.cells #[.string t.name, .slice va t.args.length vc] 42)) := Kept.alloc (Kept.refl _ w4) _
      have R5 := made_row w4 #[.string t.name, .slice va t.args.length vc] 42
      generalize w4.alloc (.cells #[.string t.name, .slice va t.args.length vc] 42) = w5 at *
      have K15 : Kept0 wr w5 := Kept.trans K4 K5
      have O5 := O4.kept K5.grownBy (Decidable.em _)
      have H5 := HW.kept0 K15
      have L5 := LW.kept0 K15
      have hxw : wr.heap.size ≤ w4.heap.size := K4.size
      generalize w4.heap.size = x at *
      obtain ⟨g, cap, v', hg, hvn, g0, g1, hv'⟩ := L5.at ht
      injection hg with eg1 _ eg3
      subst eg1 eg3
      obtain ⟨ua, uc, rfl⟩ := row_form hv'
      have x0 : w5.cell? ⟨x, 0, none⟩ = some (.string t.name) := World.rowIs.cell R5 (i := 0) (by simp)
      have x1 : w5.cell? ⟨x, 1, none⟩ = some (.slice va t.args.length vc) := World.rowIs.cell R5 (i := 1) (by simp)
      have SHOW : ∀ W, Kept0 w5 W → Calls Try.prog 22 #[.pointer (some ⟨p, 0, none⟩), .int .i64 (n : Int)] W fun e w' => e = .returned (.string (bt (shw l 13 n))) ∧ Kept0 W w' := fun W K => (show_in W base p ev nb fb l (H5.kept0 K) hs (n : Int)).mono fun e w' hP => ⟨by rw [hP.1, shwB_in hn], Below.kept0 hP.2⟩
      have RSHOW : ∀ W, Kept0 w5 W → Calls Try.prog 71 #[.slice (some ⟨g, 0, none⟩) l.length ac, .int .i64 (n : Int)] W fun e w' => e = .returned (.string (bt (shw l 13 n))) ∧ Kept0 W w' := fun W K => rshow_all 13 W base' _ l vs n (L5.kept0 K) (hs n hn) hoks hsm (Nat.le_refl _)
      have KD : ∀ m, Kept0 w5 (w5.drewN m) := fun m => Kept.drewN (Kept.refl _ w5) m
      generalize bt (shw l 13 n) = Z at SHOW RSHOW
      have stay : ∀ W, Kept0 w5 W → (W.cell? ⟨x, 0, none⟩ = some (.string t.name) ∧ W.cell? ⟨x, 1, none⟩ = some (.slice va t.args.length vc) ∧ W.cell? ⟨g, n * 2, none⟩ = some (.string t.name) ∧ W.cell? ⟨g, n * 2 + 1, none⟩ = some (.slice ua t.args.length uc)) := fun W K => by
        have hc : ∀ {b o : Nat} {u : Value}, w5.cell? ⟨b, o, none⟩ = some u → W.cell? ⟨b, o, none⟩ = some u := fun {b o u} hu => (World.cell?_of_block (K.block b (World.block_lt_of_cell? w5 _ hu) (fun e => e)) ).trans hu
        exact ⟨hc x0, hc x1, hc g0, hc g1⟩
      clear x0 x1 g0 g1
      go_region_held3 (fun W => W.cell? ⟨x, 0, none⟩ = some (.string t.name) ∧ W.cell? ⟨x, 1, none⟩ = some (.slice va t.args.length vc) ∧ W.cell? ⟨g, n * 2, none⟩ = some (.string t.name) ∧ W.cell? ⟨g, n * 2 + 1, none⟩ = some (.slice ua t.args.length uc)) (exact stay _ (by first | assumption | exact KD 1)) (first | (go_at_call 22; refine (SHOW _ (by first | assumption | exact KD 1)).mono ?_; rintro e w6 ⟨rfl, K6⟩; have KS : Kept0 w5 w6 := Kept.trans (by first | assumption | exact KD 1) K6) | (go_at_call 71; refine (RSHOW _ (by first | assumption | exact KD 1)).mono ?_; rintro e w6 ⟨rfl, K6⟩; have KS : Kept0 w5 w6 := Kept.trans (by first | assumption | exact KD 1) K6))
      all_goals
        have O6 : w6.ownsRow wr.heap.size 3 1 (.slice va t.args.length vc) t.args.length (argC t.args) := O5.kept KS.grownBy (Decidable.em _)
        have R6 := World.rowIs.of_block R5 (KS.block x (World.rowIs.lt R5) (fun e => e))
        have K6w : Hid (Kept0 wr w6) := Kept.trans K15 KS
        have cells6 : ∀ i, i < t.args.length → ∃ gv, va = some ⟨gv, 0, none⟩ ∧ wr.heap.size ≤ gv ∧ gv ≠ x ∧ w6.cell? ⟨gv, i, none⟩ = some (.int .i64 (t.args[i]?.getD 0 : Int)) ∧ w6.frozen? ⟨gv, i, none⟩ = false := fun i hi => ans_cells O6 R6 hi
        have A6 : ∀ i, i < t.args.length → w6.cell? ⟨x, 1, none⟩ = some (.slice va t.args.length vc) := fun _ _ => World.rowIs.cell R6 (i := 1) (by simp)
        have x1 : w6.cell? ⟨x, 1, none⟩ = some (.slice va t.args.length vc) := World.rowIs.cell R6 (i := 1) (by simp)
        clear SHOW RSHOW stay KD O5 O6 R5 R6 K4 B4 K5 O4 TS
        go_wp2_with fail
        go_loopw [8] (fun t8 W => ∃ j : Nat, j ≤ t.args.length ∧ t8 = .int .i64 (j : Int) ∧ Hid (Kept0 wr W) ∧ W.cell? ⟨x, 1, none⟩ = some (.slice va t.args.length vc) ∧ Hid (∀ i, j ≤ i → i < t.args.length → ∃ gv, va = some ⟨gv, 0, none⟩ ∧ wr.heap.size ≤ gv ∧ gv ≠ x ∧ W.cell? ⟨gv, i, none⟩ = some (.int .i64 (t.args[i]?.getD 0 : Int)) ∧ W.frozen? ⟨gv, i, none⟩ = false)) (fun t8 _ => t.args.length - (intOf t8).toNat)
        case atStart => exact ⟨0, by omega, rfl, K6w, x1, fun i _ hi => cells6 i hi⟩
        case round =>
          obtain ⟨j, hj, rfl, KJ, xj, CJ⟩ := hrel
          clear x1 A6 cells6 K6w
          have LJ := LW.kept0 KJ.out
          obtain ⟨gl, capl, vl, hgl, _, gl0, gl1, hvl⟩ := LJ.at ht
          injection hgl with q1 _ q3
          injection q1 with q2
          injection q2 with q4
          subst q4 q3
          obtain ⟨la, lc, rfl⟩ := row_form hvl
          by_cases hj2 : j < t.args.length
          · have dj : decide ((j : Int) < (t.args.length : Int)) = true := decide_eq_true (by omega)
            obtain ⟨gv, hva, hgw, hgx, cj, fj⟩ := CJ.out j (Nat.le_refl _) hj2
            subst hva
            obtain ⟨ga, gc, hga, cl⟩ := arg_cell hvl hj2
            injection hga with r1 _ r3
            subst r1 r3
            have hgj : t.args[j]?.getD 0 = t.args[j] := by rw [List.getElem?_eq_getElem hj2]; rfl
            rw [hgj] at cj
            have dne : ((t.args[j] : Int) != (t.args[j] : Int)) = false := by simp
            go_wp2_with fail
            go_quiet (fail)
            go_wp2_with fail
            go_roundw
            case rel =>
              refine ⟨j + 1, by omega, by go_num, ?_, ?_, fun i hi1 hi2 => ?_⟩
              · exact Kept.mono (Kept.setCell (S := fun k => _ ≤ k) (p := ⟨gv, j, none⟩) (Kept.drewN (Kept.mono KJ.out (fun _ _ e => e.elim)) nq) hgw _) (fun k hk e => by omega)
              · exact (World.cell?_setCell_other _ _ _ _ (fun e => hgx (by injection e))).trans xj
              · obtain ⟨gv2, hva2, w2, w3, w4, w5⟩ := CJ.out i (by omega) hi2
                injection hva2 with z1
                injection z1 with z2
                subst z2
                exact ⟨gv, rfl, w2, w3, (World.cell?_setCell_other _ _ _ _ (fun e => by injection e with _ e2; omega)).trans w4, by simpa using w5⟩
            case measure => simp [intOf]; omega
          · have dj : decide ((j : Int) < (t.args.length : Int)) = false := decide_eq_false (by omega)
            go_wp2_with fail
            refine ⟨⟨n + 2, by omega, by rw [show (((n + 2 : Nat) : Int) - 1) = (n : Int) + 1 from by omega], Kept.trans KK.out KJ.out⟩, ?_⟩
            simp [intOf]
            omega
    · by_cases hend : k = l.length + 2
      · have dE : decide ((k : Int) - 1 ≤ (l.length : Int)) = false := decide_eq_false (by omega)
        clear hend
        go_wp2_with fail
        go_ret
        exact ⟨rfl, KK.out⟩
      · have dE : decide ((k : Int) - 1 ≤ (l.length : Int)) = true := decide_eq_true (by omega)
        have hi : inB l.length ((k : Int) - 1) = false := decide_eq_false (by omega)
        have TO := term_out wr base p ev nb fb l HW ((k : Int) - 1) hi
        by_cases h0 : k = 0
        · subst h0
          go_wp2_with (first | (go_at_call 23; refine TO.mono ?_; rintro e w4 ⟨rfl, B4⟩; have H4 := HW.below HW.low B4; have y4 := ans_box w4 (.string ⟨#[]⟩) (.slice none 0 0); have y0 := y4.1; have y1 := y4.2; have K5 : Kept0 w4 (w4.alloc (.cells #[.string ⟨#[]⟩, .slice none 0 0] 42)) := Kept.alloc (Kept.refl _ w4) _; have SH := show_in _ base p ev nb fb l (H4.kept0 K5) hs (((0 : Nat) : Int) - 1); rw [shwB_out hi] at SH) | (go_at_call 22; refine SH.mono ?_; rintro e w6 ⟨rfl, B6⟩))
          exact ⟨⟨1, by omega, by simp, Kept.trans KK.out (Kept.trans (Kept.trans (Below.kept0 B4) K5) (Below.kept0 B6))⟩, by simp [intOf]; omega⟩
        · have dL : decide ((k : Int) - 1 < 0) = false := decide_eq_false (by omega)
          have dQ : ((k : Int) - 1 == (l.length : Int)) = true := beq_iff_eq.2 (by omega)
          have hkk : Hid (k = l.length + 1) := by show _ = _; omega
          clear h0 hend hin
          go_wp2_with (first | (go_at_call 23; refine TO.mono ?_; rintro e w4 ⟨rfl, B4⟩; have H4 := HW.below HW.low B4; have y4 := ans_box w4 (.string ⟨#[]⟩) (.slice none 0 0); have y0 := y4.1; have y1 := y4.2; have K5 : Kept0 w4 (w4.alloc (.cells #[.string ⟨#[]⟩, .slice none 0 0] 42)) := Kept.alloc (Kept.refl _ w4) _; have SH := show_in _ base p ev nb fb l (H4.kept0 K5) hs ((k : Int) - 1); rw [shwB_out hi] at SH) | (go_at_call 22; refine SH.mono ?_; rintro e w6 ⟨rfl, B6⟩))
          have := hkk.out
          refine ⟨⟨k + 1, by omega, by simp, Kept.trans KK.out (Kept.trans (Kept.trans (Below.kept0 B4) K5) (Below.kept0 B6))⟩, ?_⟩
          simp [intOf]
          omega

end Go.Proofs.Ytinphcnknionmaa
