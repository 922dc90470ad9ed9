/- TermBack's walk. -/
import Derived.Test.YtjfekcjhflcnaaaBackC
import Derived.Test.YtjfekcjhflcnaaaRefO
namespace Go.Proofs.Ytjfekcjhflcnaaa
open Go.RowKit Go.Maps

/-- A bank and the document's. -/
structure Duo (w W : World) (p : Nat) (ev : Value) (nb fb : Nat) (l : List Tm) (q : Nat) (av : Value) (vs : List Value) : Prop where
  b : Bk W w.heap.size p ev nb fb l
  r : RBk W w.heap.size q av l vs
  kl : Kp l
  nq : Nq l
  bel : Below w.heap.size w W
  rq : w.heap.size ≤ q

theorem Duo.read {w W : World} {p : Nat} {ev : Value} {nb fb : Nat} {l : List Tm} {q : Nat} {av : Value} {vs : List Value} (h : Duo w W p ev nb fb l q av vs) (s : ByteArray) :
    Calls Try.prog 16 #[.pointer (some ⟨p, 0, none⟩), .string s] W fun e W' => e = .returned (.tuple #[.int .i64 ((pRead s l).1 : Int), .int .i64 ((pRead s l).2.1 : Int), .int .i64 ((pRead s l).2.2.1 : Int)]) ∧ ∃ ev2, (Calls Try.prog 17 #[.pointer (some ⟨q, 0, none⟩), .string s] W' fun e W2 => e = .returned (.tuple #[.int .i64 ((pRead s l).1 : Int), .int .i64 ((pRead s l).2.1 : Int), .int .i64 ((pRead s l).2.2.1 : Int)]) ∧ ∃ av2 vs2, Duo w W2 p ev2 nb fb (pRead s l).2.2.2 q av2 vs2) ∧ Below w.heap.size w W' := by
  refine (tRead_in W w.heap.size p ev nb fb l h.b h.kl.len h.bel.size s).mono ?_
  rintro e W' ⟨he, ev2, B2, K2, R2⟩
  have RR := h.r.kept K2 (fun k c T fz hk h1 h2 => h.b.apart hk h1 h2)
  have bel2 := h.bel.trans (Kept.below K2 h.bel.size (fun k e => h.b.foot_ge e))
  refine ⟨he, ev2, ?_, bel2⟩
  refine (rRead_in W' w.heap.size q av l vs RR h.kl.good h.kl.len s).mono ?_
  rintro e W2 ⟨he2, ⟨av2, vs2, R3⟩, K3⟩
  obtain ⟨cq, hq, _⟩ := RR.row
  have hqb := B2.apart hq (by decide) (by decide)
  exact ⟨he2, av2, vs2, ⟨B2.stays K3 (fun k hk e => hqb (e ▸ hk)), R3, h.kl.read s, h.nq.read s, bel2.trans (Kept.below K3 bel2.size (fun k e => e ▸ h.rq)), h.rq⟩⟩

theorem Duo.start (w w1 : World) (p nb fb : Nat) (H1 : Bk w1 w.heap.size p (.slice none 0 0) nb fb []) (B1 : Below w.heap.size w w1) :
    Duo w (w1.alloc (.cells #[.slice none 0 0] 28)) p (.slice none 0 0) nb fb [] w1.heap.size (.slice none 0 0) [] := by
  have K : Kept0 w1 (w1.alloc (.cells #[.slice none 0 0] 28)) := Kept.alloc (Kept.refl _ w1) _
  have s1 := B1.size
  refine ⟨H1.kept0 K, ⟨?_, ⟨rfl, World.ownsRow_nil _ _ _ _, by simp⟩, by simp; omega⟩, Kp.nil, Nq.nil, B1.trans (Kept.below K B1.size (fun _ e => e.elim)), by omega⟩
  refine World.rowIs.congr (made_row w1 #[.slice none 0 0] 28) (fun j hj => ?_)
  have : j = 0 := by simp at hj; omega
  subst this; rfl

set_option maxHeartbeats 4000000 in
set_option maxRecDepth 100000 in
theorem back_in (w : World) (a : Option Addr) (cp : Nat) (ss : List ByteArray) (hT : Texts w a ss) (hm : ss.length ≤ maxLen) :
    Calls Try.prog 4 #[.slice a ss.length cp] w fun e w' => e = .returned (.bool true) ∧ Below w.heap.size w w' := by
  unfold maxLen at hm
  have NEW1 := tNew_any w
  go_enter Try.func4, Try.ntmps4
  go_wp2_with (first | (go_at_call 15; refine NEW1.mono ?_; rintro e w1 ⟨p, nb, fb, rfl, H1, B1⟩; have T0 := Duo.start w w1 p nb fb H1 B1))
  clear NEW1 H1 B1
  generalize w1.alloc (.cells #[.slice none 0 0] 28) = w3 at T0 ⊢
  generalize w1.heap.size = q at T0 ⊢
  go_loopw [5] (fun t5 W => ∃ k : Nat, k ≤ ss.length ∧ t5 = .int .i64 (k : Int) ∧ ∃ ev l av vs, Duo w W p ev nb fb l q av vs) (fun t5 _ => ss.length - (intOf t5).toNat)
  case atStart => exact ⟨0, by omega, rfl, _, _, _, _, T0⟩
  case round =>
    clear T0
    obtain ⟨k, hk, rfl, ev, l, av, vs, T⟩ := hrel
    by_cases hk2 : k < ss.length
    · have dk : decide ((k : Int) < (ss.length : Int)) = true := decide_eq_true (by omega)
      rcases hT with e | ⟨b, off, rfl, hb, hc⟩
      · rw [e] at hk2; simp at hk2
      · have hs : ss[k]? = some ss[k] := List.getElem?_eq_getElem hk2
        have ck := hc k _ hs
        generalize ss[k] = s at ck hs
        have c1 := (T.bel.cell (p := ⟨b, off + k, none⟩) hb).trans ck
        have RB := T.read s
        go_wp2_with (first | (go_at_call 16; refine RB.mono ?_; rintro e w5 ⟨rfl, ev5, RR, bel5⟩; have c5 := (bel5.cell (p := ⟨b, off + k, none⟩) hb).trans ck) | (go_at_call 17; refine RR.mono ?_; rintro e w6 ⟨rfl, av6, vs6, T6⟩) | (go_at_call 18; refine (num1_any _ _).mono ?_; rintro e w9 ⟨rfl, rfl⟩))
        exact ⟨⟨k + 1, by omega, by simp, _, _, _, _, T6⟩, by simp [intOf]; omega⟩
    · have dk : decide ((k : Int) < (ss.length : Int)) = false := decide_eq_false (by omega)
      have SZ := size_in wr w.heap.size p ev nb fb l T.b
      have qc : wr.cell? ⟨q, 0, none⟩ = some av := T.r.row.cell (by omega)
      obtain ⟨aa, ac, hav⟩ := T.r.ls.form
      subst hav
      have hlen := T.kl.len
      go_wp2_with (first | (go_at_call 21; refine SZ.mono ?_; rintro e w9 ⟨rfl, rfl⟩))
      have kl := T.kl
      have nq := T.nq
      have hnd := T.b.nodup
      have hoks := T.b.oks
      have T0b := T.b
      have T0l : Hid (Below w.heap.size w wr) := T.bel
      clear T SZ qc
      go_loopw [13] (fun t13 W => ∃ i : Nat, i ≤ l.length ∧ t13 = .int .i64 (i : Int) ∧ ∃ ev2, Bk W w.heap.size p ev2 nb fb l ∧ Hid (Below w.heap.size w W)) (fun t13 _ => l.length - (intOf t13).toNat)
      case atStart => exact ⟨0, by omega, rfl, _, T0b, T0l⟩
      case round =>
        clear T0b T0l
        obtain ⟨i, hi, rfl, ev2, HB, BE⟩ := hrel
        by_cases hi2 : i < l.length
        · have di : decide ((i : Int) < (l.length : Int)) = true := decide_eq_true (by omega)
          have SH := show_in wr w.heap.size p ev2 nb fb l HB kl.hs (i : Int)
          rw [shwB_in hi2] at SH
          have hzs := bt_size (shw l 13 i)
          have hinj : ∀ j, j < i → (shw l 13 i).length ≤ 400 → ((bt (shw l 13 j)).toList == (bt (shw l 13 i)).toList) = false := fun j hj hle => beq_eq_false_iff_ne.2 fun e => by
            have e2 := toList_name e
            have e3 : shw l 13 j = shw l 13 i := by
              have := congrArg (fun b : ByteArray => b.data.toList) e2
              simpa [bt] using this
            have := shw_inj hnd kl nq hi2 (by omega) hle e3
            omega
          have hrb := read_back hnd kl nq hi2
          generalize hZ : shw l 13 i = Z at *
          by_cases h400 : 400 < Z.length
          · have dz : decide ((400 : Int) < ((bt Z).size : Int)) = true := decide_eq_true (by omega)
            go_wp2_with (first | (go_at_call 22; refine SH.mono ?_; rintro e w4 ⟨rfl, B4⟩))
            exact ⟨⟨i + 1, by omega, by simp, ev2, HB.below HB.low B4, BE.out.trans (B4.mono BE.out.size)⟩, by simp [intOf]; omega⟩
          · have dz : decide ((400 : Int) < ((bt Z).size : Int)) = false := decide_eq_false (by omega)
            have hrb2 := hrb (by omega)
            have ht : l[i]? = some l[i] := List.getElem?_eq_getElem hi2
            generalize l[i] = t at ht
            have hahd := nq.ahd i t ht
            have hinj2 := fun j hj => hinj j hj (by omega)
            have ha4 := (hoks t (List.mem_of_getElem? ht)).args
            clear hinj hrb
            go_wp2_with (first | (go_at_call 22; refine SH.mono ?_; rintro e w4 ⟨rfl, B4⟩; have H4 := HB.below HB.low B4; have RD := tRead_in w4 w.heap.size p ev2 nb fb l H4 kl.len (Nat.le_trans BE.out.size B4.size) (bt Z); rw [hrb2] at RD) | (go_at_call 16; refine RD.mono ?_; rintro e w5 ⟨rfl, ev5, H5, K5, _⟩; have TS := term_some w5 w.heap.size p ev5 nb fb l H5 i t ht) | (go_at_call 23; refine TS.mono ?_; rintro e w6 ⟨v, rfl, O6, B6⟩; obtain ⟨va, vc, hvv⟩ := row_form O6; subst hvv; have H6 := H5.below H5.low B6; have K7 : Kept0 w6 (w6.alloc (.cells #[.string t.name, .slice va t.args.length vc] 42)) := Kept.alloc (Kept.refl _ w6) _; have SZ := size_in _ w.heap.size p ev5 nb fb l (H6.kept0 K7)) | (go_at_call 18; refine (num1_any _ _).mono ?_; rintro e w9 ⟨rfl, rfl⟩) | (go_at_call 21; refine SZ.mono ?_; rintro e w9 ⟨rfl, rfl⟩))
            have y7 := ans_box w6 (.string t.name) (.slice va t.args.length vc)
            have O7 := O6.kept K7.grownBy (Decidable.em _)
            have H7 := H6.kept0 K7
            have e4 := BE.out.trans (B4.mono BE.out.size)
            have e5 := e4.trans (Kept.below K5 e4.size (fun k e => H4.foot_ge e))
            have e6 := e5.trans (B6.mono e5.size)
            have e7 : Hid (Below w.heap.size w (w6.alloc (.cells #[.string t.name, .slice va t.args.length vc] 42))) := e6.trans (Kept.below K7 e6.size (fun _ e => e.elim))
            clear SH RD TS SZ B4 K5 B6 H4 H5 H6 O6 K7 e4 e5 e6
            generalize w6.alloc (.cells #[.string t.name, .slice va t.args.length vc] 42) = w7 at *
            have x1 := y7.2
            clear y7
            generalize w6.heap.size = x at *
            go_loopw [20] (fun t20 W => ∃ j : Nat, j ≤ t.args.length ∧ t20 = .int .i64 (j : Int) ∧ W = w7) (fun t20 _ => t.args.length - (intOf t20).toNat)
            case atStart => exact ⟨0, by omega, rfl, rfl⟩
            case round =>
              obtain ⟨j, hj, rfl, rfl⟩ := hrel
              by_cases hj2 : j < t.args.length
              · have dj : decide ((j : Int) < (t.args.length : Int)) = true := decide_eq_true (by omega)
                obtain ⟨g, cap, hg, hc⟩ := arg_cell (xs := t.args) O7 hj2
                injection hg with r1 _ r3
                subst r1 r3
                have hlt := hahd _ (List.getElem_mem hj2)
                have da : decide ((t.args[j] : Int) < 0) = false := decide_eq_false (by omega)
                have db : decide ((i : Int) ≤ (t.args[j] : Int)) = false := decide_eq_false (by omega)
                have db' : decide (i ≤ t.args[j]) = false := decide_eq_false (by omega)
                go_wp2_with fail
                exact ⟨⟨j + 1, by omega, by simp⟩, by simp [intOf]; omega⟩
              · have dj : decide ((j : Int) < (t.args.length : Int)) = false := decide_eq_false (by omega)
                go_wp2_with fail
                clear x1 O7
                go_loopw [21] (fun t21 W => ∃ j : Nat, j ≤ i ∧ t21 = .int .i64 (j : Int) ∧ Bk W w.heap.size p ev5 nb fb l ∧ Hid (Below w.heap.size w W)) (fun t21 _ => i - (intOf t21).toNat)
                case atStart => exact ⟨0, by omega, rfl, H7, e7⟩
                case round =>
                  clear H7 e7
                  obtain ⟨m, hm1, rfl, HM, EM⟩ := hrel
                  by_cases hm2 : m < i
                  · have dm : decide ((m : Int) < (i : Int)) = true := decide_eq_true (by omega)
                    have SM := show_in wr w.heap.size p ev5 nb fb l HM kl.hs (m : Int)
                    rw [shwB_in (show m < l.length by omega)] at SM
                    have hd := hinj2 m hm2
                    clear hinj2
                    generalize bt (shw l 13 m) = Y at SM hd
                    go_wp2_with (first | (go_at_call 22; refine SM.mono ?_; rintro e w8 ⟨rfl, B8⟩))
                    exact ⟨⟨m + 1, by omega, by simp, HM.below HM.low B8, EM.out.trans (B8.mono EM.out.size)⟩, by simp [intOf]; omega⟩
                  · have dm : decide ((m : Int) < (i : Int)) = false := decide_eq_false (by omega)
                    go_wp2_with fail
                    exact ⟨⟨i + 1, by omega, by simp, ev5, HM, EM⟩, by simp [intOf]; omega⟩
        · have di : decide ((i : Int) < (l.length : Int)) = false := decide_eq_false (by omega)
          go_wp2_with (first | (go_at_call 20; refine (alive1_any wr).mono ?_; rintro e w9 ⟨rfl, B9⟩))
          go_ret
          exact ⟨rfl, BE.out.trans (B9.mono BE.out.size)⟩
