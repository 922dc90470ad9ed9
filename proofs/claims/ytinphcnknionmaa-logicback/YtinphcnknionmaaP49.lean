/- LogicParses: its walk. TermReads: the statement. LogicParses: the statement. -/
import Derived.Test.YtinphcnknionmaaP48
import Derived.ProofKit
import Derived.OpenShut
import Derived.Deep.Strs
import Derived.Below
namespace Go.Proofs.Ytinphcnknionmaa
open Go.RowKit

theorem Ls.keptS {w w' : World} {base : Nat} {av : Value} {l : List Tm} {vs : List Value} {S : Nat → Prop} (h : Ls w base av l vs) (K : Kept S w w') (hS : ∀ k c T fz, w.heap[k]? = some (.cells c T fz) → T ≠ 105 → T ≠ 124 → ¬ S k) : Ls w' base av l vs := by
  have rowk : ∀ {e : TypeId} {sz n : Nat} {v : Value} {xs : List Value}, e ≠ 105 → e ≠ 124 → w.ownsRow base e sz v n xs → ∀ b, v.ownBlock = some b → w'.heap[b]? = w.heap[b]? := by
    intro e sz n v xs h1 h2 hr b hb
    rcases hr.2 with ⟨e2, _⟩ | ⟨b', cap, cur, e2, _, h3, _⟩
    · rw [e2] at hb; simp [Value.ownBlock] at hb
    · rw [e2] at hb
      simp [Value.ownBlock] at hb
      subst hb
      exact K.block _ (right_lt h3) (hS _ _ _ _ h3 h1 h2)
  refine h.blocks (rowk (by decide) (by decide) h.row) (fun u hu b hb => ?_)
  obtain ⟨xs, hx⟩ := h.mem hu
  exact rowk (by decide) (by decide) hx b hb

/-- What is known between two texts. -/
structure Pa5 (w W : World) (p : Nat) (ev : Value) (nb fb : Nat) (l : List Tm) (av : Value) (vs : List Value) : Prop where
  b : Bk W w.heap.size p ev nb fb l
  ls : Ls W w.heap.size av l vs
  kl : Kp l
  bel : Below w.heap.size w W
theorem Pa5.kept0 {w W W' : World} {p : Nat} {ev : Value} {nb fb : Nat} {l : List Tm} {av : Value} {vs : List Value} (h : Pa5 w W p ev nb fb l av vs) (K : Kept0 W W') : Pa5 w W' p ev nb fb l av vs :=
  ⟨h.b.kept0 K, h.ls.kept0 K, h.kl, h.bel.trans (Kept.below K h.bel.size (fun _ e => e.elim))⟩
theorem Pa5.form {w W : World} {p : Nat} {ev : Value} {nb fb : Nat} {l : List Tm} {av : Value} {vs : List Value} (h : Pa5 w W p ev nb fb l av vs) : ∃ a c, av = .slice a l.length c := Q5.row_form5 h.ls.row

/-- A text is parsed. -/
theorem Pa5.parse {w W : World} {p : Nat} {ev : Value} {nb fb : Nat} {l : List Tm} {av : Value} {vs : List Value} (h : Pa5 w W p ev nb fb l av vs) (s : ByteArray) :
    Calls Try.prog 58 #[.pointer (some ⟨p, 0, none⟩), .string s] W fun e W2 => ∃ op x y a n cap, e = .returned (.tuple #[.agg #[.int .i64 op, .int .i64 x, .int .i64 y, .slice a n cap], .int .i64 ((gParse s l).2.1 : Int), .int .i64 ((gParse s l).2.2.1 : Int)]) ∧ Below w.heap.size w W2 ∧
      Calls Try.prog 59 #[av, .string s] (W2.alloc (.cells #[.int .i64 op, .int .i64 x, .int .i64 y, .slice a n cap] 89)) fun e W4 => ∃ z av4, e = .returned (.tuple #[z, av4, .int .i64 ((gParse s l).2.1 : Int), .int .i64 ((gParse s l).2.2.1 : Int)]) ∧
        ∃ ev2 vs4, Pa5 w W4 p ev2 nb fb (gParse s l).2.2.2 av4 vs4 ∧ FIs W4 (.agg #[.int .i64 op, .int .i64 x, .int .i64 y, .slice a n cap]) (gParse s l).1 ∧ RVal (fun _ => True) W4 z (gParse s l).1 ∧ Kept0 (W2.alloc (.cells #[.int .i64 op, .int .i64 x, .int .i64 y, .slice a n cap] 89)) W4 := by
  refine (gParse_in W w.heap.size p ev nb fb l h.b h.kl.len h.bel.size s).mono ?_
  rintro e W2 ⟨v, rfl, V2, ev2, B2, K2, R2, _⟩
  obtain ⟨op, x, y, a, n, cap, rfl⟩ := V2.form
  have bel2 := h.bel.trans (Kept.below K2 h.bel.size (fun k e => h.b.foot_ge e))
  refine ⟨op, x, y, a, n, cap, rfl, bel2, ?_⟩
  have K3 : Kept0 W2 (W2.alloc (.cells #[.int .i64 op, .int .i64 x, .int .i64 y, .slice a n cap] 89)) := Kept.alloc (Kept.refl _ W2) _
  have L3 := (h.ls.keptS K2 (fun k c T fz hk h1 h2 => h.b.apart hk h1 h2)).kept0 K3
  have B3 := B2.kept0 K3
  have F3 := V2.is.keep (Kept.below K3 (Nat.le_refl _) (fun _ e => e.elim))
  have bel3 := bel2.trans (Kept.below K3 bel2.size (fun _ e => e.elim))
  generalize W2.alloc (.cells #[.int .i64 op, .int .i64 x, .int .i64 y, .slice a n cap] 89) = W3 at *
  refine (Q5.rParse_in W3 w.heap.size av l vs L3 bel3.size h.kl.good h.kl.len s).mono ?_
  rintro e W4 ⟨z, av4, vs4, rfl, V4, L4, K4⟩
  exact ⟨z, av4, rfl, ev2, vs4, ⟨B3.kept0 K4, L4, (gParse_nice s l h.kl).2.2, bel3.trans (Kept.below K4 bel3.size (fun _ e => e.elim))⟩, F3.keep (Kept.below K4 (Nat.le_refl _) (fun _ e => e.elim)), V4.mono (fun _ _ => trivial), K4⟩

set_option maxHeartbeats 4000000 in
set_option maxRecDepth 100000 in
theorem parses_in (w : World) (a : Option Addr) (cp : Nat) (ss : List ByteArray) (hT : Texts w a ss) (hm : ss.length ≤ maxLen) :
    Calls Try.prog 13 #[.slice a ss.length cp] w fun e w' => e = .returned (.bool true) ∧ Below w.heap.size w w' := by
  unfold maxLen at hm
  have NEW1 := tNew_any w
  go_enter Try.func13, Try.ntmps13
  go_wp2_with (first | (go_at_call 15; refine NEW1.mono ?_; rintro e w1 ⟨p, nb, fb, rfl, H1, B1⟩))
  have P0 : Pa5 w w1 p (.slice none 0 0) nb fb [] (.slice none 0 0) [] := ⟨H1, ⟨rfl, World.ownsRow_nil _ _ _ _, by simp⟩, Kp.nil, B1⟩
  clear NEW1 H1 B1
  go_loopw [4, 5] (fun t4 t5 W => ∃ k : Nat, k ≤ ss.length ∧ t5 = .int .i64 (k : Int) ∧ ∃ ev l vs, Pa5 w W p ev nb fb l t4 vs) (fun _ t5 _ => ss.length - (intOf t5).toNat)
  case atStart => exact ⟨0, by omega, rfl, _, _, _, P0⟩
  case round =>
    clear P0
    obtain ⟨k, hk, rfl, ev, l, vs, P⟩ := hrel
    by_cases hk2 : k < ss.length
    · have dk : decide ((k : Int) < (ss.length : Int)) = true := decide_eq_true (by omega)
      rcases hT with e | ⟨b, off, rfl, hb, hc⟩
      · rw [e] at hk2; simp at hk2
      · have hs : ss[k]? = some ss[k] := List.getElem?_eq_getElem hk2
        have ck := hc k _ hs
        generalize ss[k] = s at ck hs
        have c1 := (P.bel.cell (p := ⟨b, off + k, none⟩) hb).trans ck
        obtain ⟨aa, ac, rfl⟩ := P.form
        have PP := P.parse s
        have hni := gParse_nice s l P.kl
        have hin := gParse_inf s l
        generalize gParse s l = G at *
        obtain ⟨f, eN, aN, l'⟩ := G
        simp only at PP hni hin
        have HIN : Hid (eN = 0 → InF l' f) := hin
        clear hin
        obtain ⟨hwf, hsz, _⟩ := hni
        clear hs hc P
        go_wp2_with (first | (go_at_call 58; refine PP.mono ?_; rintro e w2 ⟨op2, x2, y2, a2, n2, cap2, rfl, bel2, PR⟩; have c2 := (bel2.cell (p := ⟨b, off + k, none⟩) hb).trans ck; have hb2 : b < w2.heap.size := Nat.lt_of_lt_of_le hb bel2.size) | (go_at_call 59; refine PR.mono ?_; rintro e w4 ⟨z4, av4, rfl, ev4, vs4, P4, F4, V4, K4⟩; obtain ⟨op4, x4, y4, a4, n4, cap4, rfl⟩ := V4.form; obtain ⟨aa4, ac4, rfl⟩ := P4.form; refine Aside.out ?_))
        delta Aside
        have K5 : Kept0 w4 (w4.alloc (.cells #[.int .i64 op4, .int .i64 x4, .int .i64 y4, .slice a4 n4 cap4] 94)) := Kept.alloc (Kept.refl _ w4) _
        have FB4 := made_form w2 (.int .i64 op2) (.int .i64 x2) (.int .i64 y2) (.slice a2 n2 cap2)
        have FB5 := (FB4.of_block (K4.block _ (World.rowIs.lt FB4) (fun e => e))).of_block (K5.block w2.heap.size (Nat.lt_of_lt_of_le (World.rowIs.lt FB4) K4.size) (fun e => e))
        have GB5 := Q5.made_formR w4 (.int .i64 op4) (.int .i64 x4) (.int .i64 y4) (.slice a4 n4 cap4)
        have P5 := P4.kept0 K5
        have F5 := F4.keep (Kept.below K5 (Nat.le_refl _) (fun _ e => e.elim))
        have V5 := V4.keep (RKeep.kept0 K5 _)
        obtain ⟨f0, f1, f2, f3⟩ := form_cells FB5
        obtain ⟨g0, g1, g2, g3⟩ := Q5.form_cellsR GB5
        have SM := same5w _ _ _ f F5 V5 hwf
        have H5 : Hid (_ ∧ _ ∧ _ ∧ _ ∧ _) := And.intro P5 (And.intro F5 (And.intro V5 (And.intro FB5 GB5)))
        clear P5 F5 V5 FB5 GB5 FB4 K5 P4 F4 V4 K4 PR PP c2 c1 ck hb hb2 bel2
        generalize hgx : w4.heap.size = gx at *
        generalize hw5 : w4.alloc (.cells #[.int .i64 op4, .int .i64 x4, .int .i64 y4, .slice a4 n4 cap4] 94) = w5 at *
        generalize w2.heap.size = fx at *
        have stay : Hid (∀ W, Kept0 w5 W → (W.cell? ⟨fx, 0, none⟩ = some (.int .i64 op2) ∧ W.cell? ⟨fx, 1, none⟩ = some (.int .i64 x2) ∧ W.cell? ⟨fx, 2, none⟩ = some (.int .i64 y2) ∧ W.cell? ⟨fx, 3, none⟩ = some (.slice a2 n2 cap2) ∧ W.cell? ⟨gx, 0, none⟩ = some (.int .i64 op4) ∧ W.cell? ⟨gx, 1, none⟩ = some (.int .i64 x4) ∧ W.cell? ⟨gx, 2, none⟩ = some (.int .i64 y4) ∧ W.cell? ⟨gx, 3, none⟩ = some (.slice a4 n4 cap4))) := fun W K => by
          have hc : ∀ {b o : Nat} {u : Value}, w5.cell? ⟨b, o, none⟩ = some u → W.cell? ⟨b, o, none⟩ = some u := fun {b o u} hu => (World.cell?_of_block (K.block b (World.block_lt_of_cell? w5 _ hu) (fun e => e)) ).trans hu
          exact ⟨hc f0, hc f1, hc f2, hc f3, hc g0, hc g1, hc g2, hc g3⟩
        apply_assumption
        by_cases he : eN = 0
        · subst he
          go_wp2_with (first | (go_at_call 61; refine (num5_any _ _).mono ?_; rintro e w9 ⟨rfl, rfl⟩) | (go_at_call 19; refine SL.mono ?_; rintro e w7 ⟨rfl, K7⟩; have K57 := Kept.trans K6 K7) | (go_at_call 60; refine SM.mono ?_; rintro e w6 ⟨rfl, B6⟩; have K6 := Below.kept0 B6; have P6 := H5.out.1.kept0 K6; have SL := same_law w6 w.heap.size p ev4 nb fb l' P6.b P6.kl.hs w.heap.size _ vs4 P6.ls))
          have hIn := HIN.out (by trivial)
          have hlen : (shF l' [61] f).length ≤ 100000000000000 := shF_len H5.out.1.b.oks hwf hsz
          have P7 := H5.out.1.kept0 K57
          have F7 := H5.out.2.1.keep (Kept.below K57 (Nat.le_refl _) (fun _ e => e.elim))
          have V7 := H5.out.2.2.1.keep (RKeep.kept0 K57 _)
          have SHOW : ∀ W, Kept0 w7 W → Calls Try.prog 62 #[.pointer (some ⟨p, 0, none⟩), .agg #[.int .i64 op2, .int .i64 x2, .int .i64 y2, .slice a2 n2 cap2]] W fun e w' => e = .returned (.string (ofB (shF l' [61] f))) ∧ Kept0 W w' := fun W K => (showF_in W w.heap.size p ev4 nb fb l' (P7.b.kept0 K) P7.kl.hs _ f (F7.keep (Kept.below K (Nat.le_refl _) (fun _ e => e.elim))) hwf (by omega) (by omega)).mono fun e w' hP => ⟨hP.1, Below.kept0 hP.2⟩
          have RSHOW : ∀ W, Kept0 w7 W → Calls Try.prog 63 #[.slice aa4 l'.length ac4, .agg #[.int .i64 op4, .int .i64 x4, .int .i64 y4, .slice a4 n4 cap4]] W fun e w' => e = .returned (.string (ofB (shF l' [61] f))) ∧ Kept0 W w' := fun W K => rshow5 W w.heap.size _ l' vs4 ⟨P7.ls.kept0 K, P7.kl.hs, P7.b.oks, by have := P7.kl.len; omega⟩ _ f (V7.keep (RKeep.kept0 K _)) hwf hIn hsz
          have HP7 : Hid (Pa5 w w7 p ev4 nb fb l' (.slice aa4 l'.length ac4) vs4) := P7
          have stay7 : ∀ W, Kept0 w7 W → (W.cell? ⟨fx, 0, none⟩ = some (.int .i64 op2) ∧ W.cell? ⟨fx, 1, none⟩ = some (.int .i64 x2) ∧ W.cell? ⟨fx, 2, none⟩ = some (.int .i64 y2) ∧ W.cell? ⟨fx, 3, none⟩ = some (.slice a2 n2 cap2) ∧ W.cell? ⟨gx, 0, none⟩ = some (.int .i64 op4) ∧ W.cell? ⟨gx, 1, none⟩ = some (.int .i64 x4) ∧ W.cell? ⟨gx, 2, none⟩ = some (.int .i64 y4) ∧ W.cell? ⟨gx, 3, none⟩ = some (.slice a4 n4 cap4)) := fun W K => stay.out W (Kept.trans K57 K)
          have KD : ∀ m, Kept0 w7 (w7.drewN m) := fun m => Kept.drewN (Kept.refl _ w7) m
          generalize ofB (shF l' [61] f) = Z at SHOW RSHOW
          clear SL SM f0 f1 f2 f3 g0 g1 g2 g3 stay K57 K7 K6 P6 B6 H5 P7 F7 V7 hIn hlen HIN hwf hsz
          go_region_held3 (fun W => W.cell? ⟨fx, 0, none⟩ = some (.int .i64 op2) ∧ W.cell? ⟨fx, 1, none⟩ = some (.int .i64 x2) ∧ W.cell? ⟨fx, 2, none⟩ = some (.int .i64 y2) ∧ W.cell? ⟨fx, 3, none⟩ = some (.slice a2 n2 cap2) ∧ W.cell? ⟨gx, 0, none⟩ = some (.int .i64 op4) ∧ W.cell? ⟨gx, 1, none⟩ = some (.int .i64 x4) ∧ W.cell? ⟨gx, 2, none⟩ = some (.int .i64 y4) ∧ W.cell? ⟨gx, 3, none⟩ = some (.slice a4 n4 cap4)) (exact stay7 _ (by first | assumption | exact KD 1)) (first | (go_at_call 62; refine (SHOW _ (by first | assumption | exact KD 1)).mono ?_; rintro e w8 ⟨rfl, K8⟩; have KS : Kept0 w7 w8 := Kept.trans (by first | assumption | exact KD 1) K8) | (go_at_call 63; refine (RSHOW _ (by first | assumption | exact KD 1)).mono ?_; rintro e w8 ⟨rfl, K8⟩; have KS : Kept0 w7 w8 := Kept.trans (by first | assumption | exact KD 1) K8))
          all_goals
            go_wp2_with fail
            exact ⟨⟨k + 1, by omega, by simp, ev4, l', vs4, HP7.out.kept0 (by assumption)⟩, by simp [intOf]; omega⟩
        · have de : ((eN : Int) == 0) = false := beq_eq_false_iff_ne.2 (by omega)
          go_wp2_with (first | (go_at_call 61; refine (num5_any _ _).mono ?_; rintro e w9 ⟨rfl, rfl⟩) | (go_at_call 19; refine SL.mono ?_; rintro e w7 ⟨rfl, K7⟩; have K57 := Kept.trans K6 K7) | (go_at_call 60; refine SM.mono ?_; rintro e w6 ⟨rfl, B6⟩; have K6 := Below.kept0 B6; have P6 := H5.out.1.kept0 K6; have SL := same_law w6 w.heap.size p ev4 nb fb l' P6.b P6.kl.hs w.heap.size _ vs4 P6.ls))
          clear SL SM
          go_quiet (fail)
          go_wp2_with fail
          exact ⟨⟨k + 1, by omega, by simp, ev4, l', vs4, H5.out.1.kept0 (Kept.drewN K57 nq)⟩, by simp [intOf]; omega⟩
    · have dk : decide ((k : Int) < (ss.length : Int)) = false := decide_eq_false (by omega)
      go_wp2_with (first | (go_at_call 64; refine (alive5_any wr).mono ?_; rintro e w9 ⟨rfl, B9⟩))
      go_ret
      exact ⟨rfl, P.bel.trans (B9.mono P.bel.size)⟩

end Go.Proofs.Ytinphcnknionmaa

namespace Go.Proofs.Ytinphcnknionmaa
open Go.ChangeShapes Go.WideShapes Go.ChangeAt Go.RowKit Go.Deep
open Go.ChangeMaps (open_string shut_string)

theorem Try.own : ownKnob Try.prog.godebug = none := by kernel_rfl
theorem Try.laidOut : laidOutB Try.prog = true := by kernel_rfl
theorem cellsStr : Try.prog.cellsOf 9 = 1 := by kernel_rfl

set_option maxRecDepth 100000 in
theorem texts_at {H : Type} {enc : TypeId × Value → H} {W : World} {base : Nat} {spare : Nat → Bool} {held : Bool} {a : Option Addr} {len cap : Nat} {d : DataW H} {p : List MemPlace}
    (h : DataW.Trod enc Try.prog W base spare held 22 (.slice a len cap) d p) : ∃ ss : List ByteArray, ss.length = len ∧ Texts W a ss ∧ len ≤ maxLen := by
  obtain ⟨fuel, hf⟩ := h
  rcases open_strs Try.underlying22 Try.underlying9 cellsStr hf with ⟨hcs, _⟩ | ⟨x, l, c, m, Sx, hcs, _, hl, hm, hmm, _, hx⟩
  · simp [Value.cells] at hcs
    obtain ⟨rfl, rfl, rfl⟩ := hcs
    exact ⟨[], rfl, Or.inl rfl, by unfold maxLen; omega⟩
  · simp [Value.cells] at hcs
    obtain ⟨rfl, rfl, rfl⟩ := hcs
    have hlm : len ≤ m := by rw [hmm]; split <;> omega
    refine ⟨(List.range len).map Sx, by simp, ?_, by omega⟩
    by_cases h0 : len = 0
    · subst h0; exact Or.inl rfl
    · right
      obtain ⟨b, off, spot⟩ := x
      have c0 := (hx 0 (by omega)).1
      have hspot : spot = none := by
        have hsp := World.cell?_spot c0
        simpa [Addr.add] using hsp
      subst hspot
      refine ⟨b, off, rfl, ?_, fun k s hk => ?_⟩
      · rw [add_plain] at c0
        exact World.block_lt_of_cell? _ _ c0
      · have hk' : k < len := by
          have := (List.getElem?_eq_some_iff.1 hk).1
          simpa using this
        have ck := (hx k (by omega)).1
        rw [add_plain] at ck
        rw [ck]
        simp [hk'] at hk
        rw [hk]

set_option maxRecDepth 100000 in
theorem TermReads_lifted (os : Os) (started : os.Started) (H : Type) (enc : TypeId × Value → H) :
    ReturnsInHanded {} Try.checked os 3 .any (Rows.termReadsSpec.pre6 enc Try.prog Try.f3 Rows.termReadsRow.domain false) (Rows.termReadsSpec.post enc Try.prog Try.f3 false true false false) := by
  refine returnsInHanded_of_change (C := Try.checked) Try.own started (by kernel_rfl) Try.func3
    (ChangeSpec.witness6 (enc := enc) (C := Try.checked) false ⟨#[], #[.slice none 0 0, .string ⟨#[]⟩], []⟩ 8 (by kernel_rfl) (by kernel_rfl) (by kernel_rfl) (by kernel_rfl)) ?_
  intro W base args ds gs before hval0 hW hcnd _
  have hval : ∀ (j : Nat) t v, Try.f3.params[j]? = some t → args[j]? = some v → Value.okWide Try.prog W .any base t v := hval0
  have hW' := hW
  obtain ⟨p, q, hA0, hV, rfl, hfz, hnd⟩ := hW
  have hA : DataW.TrodAll enc Try.prog W 0 (fun _ => true) true Try.f3.params.toList args.toList ds p := hA0
  rw [Try.params3] at hA hval
  obtain ⟨v0, vs0, d0, ds0, p0, q0, hargs, rfl, rfl, h0, r0⟩ := trodAll_cons hA
  obtain ⟨v1, vs1, d1, ds1, p1, q1, rfl, rfl, rfl, h1, r1⟩ := trodAll_cons r0
  obtain ⟨rfl, rfl, rfl⟩ := trodAll_nil r1
  obtain rfl : args = #[v0, v1] := by cases args; simp_all
  obtain ⟨rfl, rfl⟩ := trodVars_none hV
  obtain ⟨a0, len0, cap0, rfl⟩ := okWide_slice Try.underlying22 (hval 0 22 v0 rfl rfl)
  obtain ⟨x1, rfl, rfl, rfl, w1⟩ := open_string Try.underlying9 (hval 1 9 v1 rfl rfl) h1
  have lt0 : ∀ x ∈ p0, x.block < W.heap.size := by obtain ⟨m, hm⟩ := h0; exact DataW.trod_lt m _ _ _ hm
  obtain ⟨ss, e1, s1, l1⟩ := texts_at h0
  subst e1
  clear hA0 hval0
  refine (reads_in W a0 cap0 ss s1 l1 x1).mono fun e W' ⟨he, bel⟩ => ?_
  subst he
  exact ⟨_, rfl, _, _, _, [], _, [], hW', trodAll_mk1 (shut_bool Try.underlying4 _), (trodAll_cons_mk (Below.trod Try.laidOut (by kernel_rfl) (of_decide_eq_true (by kernel_rfl)) h0 bel lt0) (trodAll_cons_mk (shut_string Try.underlying9 w1) trodAll_mk0)), rfl, bel.frame _, fun h => by cases h⟩

theorem TermReads_holds : Rows.TermReadsSaid :=
  OpenClaim.holds_of_wide 3 Try.f3 rfl rfl rfl rfl rfl rfl rfl ⟨rfl, rfl, rfl, rfl, rfl⟩ rfl rfl rfl rfl rfl (by kernel_rfl) Try.func3 (by kernel_rfl)
    (of_decide_eq_true (by kernel_rfl)) (by unfold Func.isWrapper; first | (rw [if_pos (by decide +kernel)]; kernel_rfl) | (rw [if_neg (by decide +kernel)]; exact ⟨rfl, rfl⟩))
    (fun os started H enc _ => TermReads_lifted os started H enc)
#print axioms TermReads_holds

end Go.Proofs.Ytinphcnknionmaa

namespace Go.Proofs.Ytinphcnknionmaa
open Go.ChangeShapes Go.WideShapes Go.ChangeAt Go.RowKit Go.Deep

set_option maxRecDepth 100000 in
theorem LogicParses_lifted (os : Os) (started : os.Started) (H : Type) (enc : TypeId × Value → H) :
    ReturnsInHanded {} Try.checked os 13 .any (Rows.logicParsesSpec.pre6 enc Try.prog Try.f13 Rows.logicParsesRow.domain false) (Rows.logicParsesSpec.post enc Try.prog Try.f13 false true false false) := by
  refine returnsInHanded_of_change (C := Try.checked) Try.own started (by kernel_rfl) Try.func13
    (ChangeSpec.witness6 (enc := enc) (C := Try.checked) false ⟨#[], #[.slice none 0 0], []⟩ 8 (by kernel_rfl) (by kernel_rfl) (by kernel_rfl) (by kernel_rfl)) ?_
  intro W base args ds gs before hval0 hW hcnd _
  have hval : ∀ (j : Nat) t v, Try.f13.params[j]? = some t → args[j]? = some v → Value.okWide Try.prog W .any base t v := hval0
  have hW' := hW
  obtain ⟨p, q, hA0, hV, rfl, hfz, hnd⟩ := hW
  have hA : DataW.TrodAll enc Try.prog W 0 (fun _ => true) true Try.f13.params.toList args.toList ds p := hA0
  rw [Try.params13] at hA hval
  obtain ⟨v0, vs0, d0, ds0, p0, q0, hargs, rfl, rfl, h0, r0⟩ := trodAll_cons hA
  obtain ⟨rfl, rfl, rfl⟩ := trodAll_nil r0
  obtain rfl : args = #[v0] := by cases args; simp_all
  obtain ⟨rfl, rfl⟩ := trodVars_none hV
  obtain ⟨a0, len0, cap0, rfl⟩ := okWide_slice Try.underlying22 (hval 0 22 v0 rfl rfl)
  have lt0 : ∀ x ∈ p0, x.block < W.heap.size := by obtain ⟨m, hm⟩ := h0; exact DataW.trod_lt m _ _ _ hm
  obtain ⟨ss, e1, s1, l1⟩ := texts_at h0
  subst e1
  clear hA0 hval0
  refine (parses_in W a0 cap0 ss s1 l1).mono fun e W' ⟨he, bel⟩ => ?_
  subst he
  exact ⟨_, rfl, _, _, _, [], _, [], hW', trodAll_mk1 (shut_bool Try.underlying4 _), (trodAll_cons_mk (Below.trod Try.laidOut (by kernel_rfl) (of_decide_eq_true (by kernel_rfl)) h0 bel lt0) trodAll_mk0), rfl, bel.frame _, fun h => by cases h⟩

theorem LogicParses_holds : Rows.LogicParsesSaid :=
  OpenClaim.holds_of_wide 13 Try.f13 rfl rfl rfl rfl rfl rfl rfl ⟨rfl, rfl, rfl, rfl, rfl⟩ rfl rfl rfl rfl rfl (by kernel_rfl) Try.func13 (by kernel_rfl)
    (of_decide_eq_true (by kernel_rfl)) (by unfold Func.isWrapper; first | (rw [if_pos (by decide +kernel)]; kernel_rfl) | (rw [if_neg (by decide +kernel)]; exact ⟨rfl, rfl⟩))
    (fun os started H enc _ => LogicParses_lifted os started H enc)
#print axioms LogicParses_holds

end Go.Proofs.Ytinphcnknionmaa
