/- Package decide: core. Package decide: Decide, where there is none. Package logic: the parser, plainly. Package logic: equality. -/
import Derived.Test.YtlehlgipbhfioaaGreatP45
import Derived.Test.YtlehlgipbhfioaaGreatP27
namespace Go.Proofs.YtlehlgipbhfioaaGreat
open Go.RowKit Go.Maps

theorem EnI.swap {Φ : World → Prop} {B : Nat} {w : World} {lv0 : Value} {S : Nat → Prop} {W W' : World} {pb vb kb : Nat} {bk tv fv lv : Value} {P : Pb} {N : Nat} {fs : List Fm} {gs : List Sx} {v v' : Value} {ns ns' : List Nat} (h : EnI Φ B w lv0 S W pb vb kb bk tv fv lv P N fs gs v ns) (hB : Below W.heap.size W W') (hr : W'.ownsRow W.heap.size 3 1 v' ns'.length (natC ns')) : EnI Φ B w lv0 S W' pb vb kb bk tv fv lv P N fs gs v' ns' :=
  ⟨h.np.below hB, h.kept.under hB, h.dq, row_low hr h.kept.size, fun k hk e => by
    have h1 := (ownsRow_lt hr hk).1
    have h2 := h.np.pm.lt k e
    omega⟩
theorem EnI.other {Φ : World → Prop} {B : Nat} {w : World} {lv0 : Value} {S S' : Nat → Prop} {W W' : World} {pb vb kb : Nat} {bk tv fv lv lv' : Value} {P Q : Pb} {N : Nat} {fs : List Fm} {gs : List Sx} {v : Value} {ns : List Nat} (h : EnI Φ B w lv0 S W pb vb kb bk tv fv lv P N fs gs v ns) (x : PmX S W S' W' pb vb kb bk tv fv lv lv' Q) {b0 n : Nat} {u : Value} {xs : List Value} (hr : W.ownsRow b0 3 1 u n xs) : W'.ownsRow b0 3 1 u n xs := ownsRow_blk hr (fun b hb => x.kept.block b (ownsRow_lt hr hb).2 (h.np.pm.pdne hr (by decide) (by decide) hb))

set_option maxRecDepth 100000 in
set_option maxHeartbeats 4000000 in
theorem core_in (w0 : World) (base p : Nat) (ev : Value) (nb fb : Nat) (l : List Tm) (hB : Bk w0 base p ev nb fb l) (hb : Cc.Bd l) (hl : l.length ≤ 150) (ta : Option Addr) (tc : Nat) (fs : List Fm) (gs : List Sx) (ham : AmOk l.length fs) (hfl : fs.length ≤ 1000) (w : World) (S : Nat → Prop) (pb vb kb : Nat) (fv lv : Value) (P : Pb) (h0 : Np (PhB w0 l ta tc) w0.heap.size S w pb vb kb (.pointer (some ⟨p, 0, none⟩)) (.slice ta l.length tc) fv lv P l.length fs gs) (hr : VrP P) (hv : HasV fs P) (f : Nat) (r : List Nat) (Q : Pb) (hE : enoB l fs f P [] = some (r, Q)) (T : List Nat) (hT : T.Perm r ∧ T.Pairwise (· < ·)) (hr0 : 0 < r.length) (hTl : T.length ≤ 100) (R : List Nat) (Q2 : Pb) (hC : corB l fs T Q T = some (R, Q2)) :
    Calls Tryz.prog 24 #[.pointer (some ⟨pb, 0, none⟩)] w fun e w' => ∃ ca cc, e = .returned (.slice ca R.length cc) ∧ Below w0.heap.size w0 w' := by
  have EN := denough_in w0 base p ev nb fb l hB hb hl ta tc fs gs ham hfl w S pb vb kb fv lv P h0 hr hv f r Q hE T hT hr0
  have hT0 : 0 < T.length := by rw [hT.1.length_eq]; exact hr0
  have HH : Hid (_ ∧ _ ∧ _ ∧ _ ∧ _) := And.intro hB (And.intro ham (And.intro hC (And.intro hb hl)))
  have EN2 : Calls Tryz.prog 50 #[.pointer (some ⟨pb, 0, none⟩)] w fun e w' => ∃ va vc, e = .returned (.slice va T.length vc) ∧ Hid (∃ S' lv', EnI (PhB w0 l ta tc) w0.heap.size w lv S' w' pb vb kb (.pointer (some ⟨p, 0, none⟩)) (.slice ta l.length tc) fv lv' Q l.length fs gs (.slice va T.length vc) T ∧ VrP Q ∧ HasV fs Q) := by
    refine EN.mono ?_
    rintro e w' ⟨v, S', lv', rfl, E1, h1, h2⟩
    obtain ⟨va, vc, rfl⟩ := ownsRow_form E1.row
    exact ⟨va, vc, rfl, S', lv', E1, h1, h2⟩
  have HCL : Hid (∀ (W : World) (va : Option Addr) (vc : Nat), (∃ S' lv', EnI (PhB w0 l ta tc) w0.heap.size w lv S' W pb vb kb (.pointer (some ⟨p, 0, none⟩)) (.slice ta l.length tc) fv lv' Q l.length fs gs (.slice va T.length vc) T ∧ VrP Q ∧ HasV fs Q) → Calls Tryz.prog 51 #[.slice va T.length vc] W fun e w' => ∃ ca cc, e = .returned (.slice ca T.length cc) ∧ Hid (w'.ownsRow 0 3 1 (.slice ca T.length cc) T.length (natC T) ∧ ∃ S' lv', EnI (PhB w0 l ta tc) w0.heap.size w lv S' w' pb vb kb (.pointer (some ⟨p, 0, none⟩)) (.slice ta l.length tc) fv lv' Q l.length fs gs (.slice va T.length vc) T ∧ VrP Q ∧ HasV fs Q)) := by
    rintro W va vc ⟨S', lv', E1, h1, h2⟩
    refine (clone_in W _ _ T E1.row hT0 (by omega)).mono ?_
    rintro e w' ⟨v', rfl, R1, B1⟩
    obtain ⟨ca, cc, rfl⟩ := ownsRow_form R1
    exact ⟨ca, cc, rfl, row_low R1 (Nat.zero_le _), S', lv', E1.below B1, h1, h2⟩
  obtain ⟨tn, htn⟩ : ∃ n, T.length = n := ⟨_, rfl⟩
  have HTN : Hid _ := htn
  rw [htn] at EN2 HCL hTl hT0
  clear EN h0 hB ham hr hv hE hT hr0 hC htn
  go_enter Tryz.func24, Tryz.ntmps24
  go_wp2_with (first | (go_at_call 50; refine EN2.mono ?_; rintro e w1 ⟨va, vc, rfl, H1⟩) | (go_at_call 51; refine (HCL.out _ _ _ H1.out).mono ?_; rintro e w2 ⟨ca, cc, rfl, H2⟩; refine Aside.out ?_))
  delta Aside
  have HS0 : Hid (∃ ns P' S' lv', (corB l fs (T.drop 0) P' ns = some (R, Q2) ∧ ns.length ≤ 100) ∧ w2.ownsRow 0 3 1 (.slice ca tn cc) tn (natC T) ∧ EnI (PhB w0 l ta tc) w0.heap.size w lv S' w2 pb vb kb (.pointer (some ⟨p, 0, none⟩)) (.slice ta l.length tc) fv lv' P' l.length fs gs (.slice va tn vc) ns ∧ VrP P' ∧ HasV fs P') := by
    obtain ⟨q1, S', lv', q2⟩ := H2.out
    exact ⟨T, Q, S', lv', ⟨HH.out.2.2.1, by rw [HTN.out]; exact hTl⟩, q1, q2⟩
  clear EN2 HCL H1 H2
  apply_assumption
  go_wp2_with fail
  go_loopw [3, 14] (fun t3 t14 W => ∃ i : Nat, i ≤ tn ∧ t14 = .int .i64 (i : Int) ∧ Hid (∃ ns P' S' lv', (corB l fs (T.drop i) P' ns = some (R, Q2) ∧ ns.length ≤ 100) ∧ W.ownsRow 0 3 1 (.slice ca tn cc) tn (natC T) ∧ EnI (PhB w0 l ta tc) w0.heap.size w lv S' W pb vb kb (.pointer (some ⟨p, 0, none⟩)) (.slice ta l.length tc) fv lv' P' l.length fs gs t3 ns ∧ VrP P' ∧ HasV fs P')) (fun _ t14 _ => tn - (intOf t14).toNat)
  case atStart => exact ⟨0, Nat.zero_le _, rfl, HS0⟩
  case round =>
    obtain ⟨i, hi, rfl, HI⟩ := hrel
    clear HS0
    obtain ⟨ns, P', S', lv', ⟨hcor, hns⟩, hrow, E1, hr1, hv1⟩ := HI.out
    obtain ⟨sa, sc, hsa⟩ := ownsRow_form E1.row
    subst hsa
    by_cases hlt : i < tn
    · have di : decide ((i : Int) < (tn : Int)) = true := decide_eq_true (by omega)
      have hwi : IntKind.i64.wrap ((i : Int) + 1) = (i : Int) + 1 := wrap_nat1 (by omega)
      have hil : i < T.length := by rw [HTN.out]; exact hlt
      rw [List.drop_eq_getElem_cons hil, corB] at hcor
      obtain ⟨g, c2, eg, q1⟩ := own_one hrow (natC_at (List.getElem?_eq_getElem hil))
      cases eg
      generalize T[i] = x at *
      by_cases hok : (okB P' fs (neF x ns) && decide (x ∈ ns)) = true
      · rw [if_pos hok] at hcor
        rw [Bool.and_eq_true, decide_eq_true_eq] at hok
        have WO := without_in wr _ _ ns E1.row (by omega) x hok.2
        cases hm : mdlN l fs (neF x ns) 2 P' with
        | none => rw [hm] at hcor; cases hcor
        | some res =>
          obtain ⟨o, Q1⟩ := res
          rw [hm] at hcor
          have hle : (neF x ns).length ≤ ns.length := List.length_filter_le _ _
          have WO2 : Calls Tryz.prog 52 #[.slice sa ns.length sc, .int .i64 (x : Int)] wr fun e w' => ∃ ra rc, e = .returned (.slice ra (neF x ns).length rc) ∧ Hid (w'.ownsRow 0 3 1 (.slice (some ⟨g, 0, none⟩) tn cc) tn (natC T) ∧ EnI (PhB w0 l ta tc) w0.heap.size w lv S' w' pb vb kb (.pointer (some ⟨p, 0, none⟩)) (.slice ta l.length tc) fv lv' P' l.length fs gs (.slice sa ns.length sc) ns ∧ EnI (PhB w0 l ta tc) w0.heap.size w lv S' w' pb vb kb (.pointer (some ⟨p, 0, none⟩)) (.slice ta l.length tc) fv lv' P' l.length fs gs (.slice ra (neF x ns).length rc) (neF x ns)) := by
            refine WO.mono ?_
            rintro e w' ⟨v1, rfl, R1, B1⟩
            obtain ⟨ra, rc, rfl⟩ := ownsRow_form R1
            exact ⟨ra, rc, rfl, ownsRow_below hrow B1, E1.below B1, E1.swap B1 R1⟩
          have HMD : Hid (∀ (W : World) (ra : Option Addr) (rc : Nat), (W.ownsRow 0 3 1 (.slice (some ⟨g, 0, none⟩) tn cc) tn (natC T) ∧ EnI (PhB w0 l ta tc) w0.heap.size w lv S' W pb vb kb (.pointer (some ⟨p, 0, none⟩)) (.slice ta l.length tc) fv lv' P' l.length fs gs (.slice sa ns.length sc) ns ∧ EnI (PhB w0 l ta tc) w0.heap.size w lv S' W pb vb kb (.pointer (some ⟨p, 0, none⟩)) (.slice ta l.length tc) fv lv' P' l.length fs gs (.slice ra (neF x ns).length rc) (neF x ns)) →
              Calls Tryz.prog 22 #[.pointer (some ⟨pb, 0, none⟩), .slice ra (neF x ns).length rc] W fun e w' => ∃ cv, e = .returned (.tuple #[cv, .bool o.isSome]) ∧ Hid (w'.ownsRow 0 3 1 (.slice (some ⟨g, 0, none⟩) tn cc) tn (natC T) ∧ ∃ S2 lv2, EnI (PhB w0 l ta tc) w0.heap.size w lv S2 w' pb vb kb (.pointer (some ⟨p, 0, none⟩)) (.slice ta l.length tc) fv lv2 Q1 l.length fs gs (.slice sa ns.length sc) ns ∧ EnI (PhB w0 l ta tc) w0.heap.size w lv S2 w' pb vb kb (.pointer (some ⟨p, 0, none⟩)) (.slice ta l.length tc) fv lv2 Q1 l.length fs gs (.slice ra (neF x ns).length rc) (neF x ns) ∧ VrP Q1 ∧ HasV fs Q1)) := by
            rintro W ra rc ⟨g1, g2, g3⟩
            refine (model_by w0 base p ev nb fb l HH.out.1 HH.out.2.2.2.1 HH.out.2.2.2.2 ta tc fs gs HH.out.2.1 S' W pb vb kb fv lv' P' g3.np hr1 hv1 _ ra rc (neF x ns) g3.row hok.1 o Q1 hm).mono ?_
            rintro e w' ⟨S2, lv2, X, h1, h2, h3⟩
            have hz := g3.np.bel.size
            have HR : w'.ownsRow 0 3 1 (.slice (some ⟨g, 0, none⟩) tn cc) tn (natC T) ∧ ∃ S2 lv2, EnI (PhB w0 l ta tc) w0.heap.size w lv S2 w' pb vb kb (.pointer (some ⟨p, 0, none⟩)) (.slice ta l.length tc) fv lv2 Q1 l.length fs gs (.slice sa ns.length sc) ns ∧ EnI (PhB w0 l ta tc) w0.heap.size w lv S2 w' pb vb kb (.pointer (some ⟨p, 0, none⟩)) (.slice ta l.length tc) fv lv2 Q1 l.length fs gs (.slice ra (neF x ns).length rc) (neF x ns) ∧ VrP Q1 ∧ HasV fs Q1 := ⟨g3.other X g1, S2, lv2, g2.step hz X, g3.step hz X, h1, h2⟩
            cases o with
            | none => exact ⟨_, h3.1 rfl, HR⟩
            | some told =>
              obtain ⟨cb, gg, e9, _⟩ := h3.2 told rfl
              exact ⟨_, e9, HR⟩
          have HCO : Hid _ := hcor
          have HLE : Hid ((neF x ns).length ≤ 100 ∧ ns.length ≤ 100) := ⟨by omega, hns⟩
          obtain ⟨n1, hn1⟩ : ∃ n, ns.length = n := ⟨_, rfl⟩
          obtain ⟨n2, hn2⟩ : ∃ n, (neF x ns).length = n := ⟨_, rfl⟩
          rw [hn1, hn2] at WO2 HMD
          simp only [hn1]
          clear WO hm hok hcor HI E1 hrow hr1 hv1 hle hns hn1 hn2
          cases o with
          | none =>
            simp only [Option.isSome_none] at HMD
            go_wp2_with (first | (go_at_call 52; refine WO2.mono ?_; rintro e w5 ⟨ra, rc, rfl, H5⟩) | (go_at_call 22; refine (HMD.out _ _ _ H5.out).mono ?_; rintro e w6 ⟨cv, rfl, H6⟩))
            refine ⟨⟨i + 1, hlt, by simp, ?_⟩, by simp [intOf]; omega⟩
            obtain ⟨k1, S2, lv2, k2, k3, k4⟩ := H6.out
            exact ⟨_, Q1, S2, lv2, ⟨HCO.out, HLE.out.1⟩, k1, k3, k4⟩
          | some told =>
            simp only [Option.isSome_some] at HMD
            go_wp2_with (first | (go_at_call 52; refine WO2.mono ?_; rintro e w5 ⟨ra, rc, rfl, H5⟩) | (go_at_call 22; refine (HMD.out _ _ _ H5.out).mono ?_; rintro e w6 ⟨cv, rfl, H6⟩))
            refine ⟨⟨i + 1, hlt, by simp, ?_⟩, by simp [intOf]; omega⟩
            obtain ⟨k1, S2, lv2, k2, k3, k4⟩ := H6.out
            exact ⟨_, Q1, S2, lv2, ⟨HCO.out, HLE.out.2⟩, k1, k2, k4⟩
      · rw [if_neg hok] at hcor
        cases hcor
    · have di : decide ((i : Int) < (tn : Int)) = false := decide_eq_false (by omega)
      obtain rfl : i = tn := by omega
      rw [List.drop_of_length_le (by rw [HTN.out]; exact Nat.le_refl _), corB] at hcor
      cases hcor
      have HF : Hid _ := E1.np.bel
      clear HI E1 hrow hr1 hv1
      go_wp2_with fail
      go_ret
      exact ⟨_, _, rfl, HF.out⟩
end Go.Proofs.YtlehlgipbhfioaaGreat

namespace Go.Proofs.YtlehlgipbhfioaaGreat
open Go.RowKit Go.Maps

set_option maxRecDepth 100000 in
set_option maxHeartbeats 4000000 in
theorem decide_no (w : World) (base p : Nat) (ev : Value) (nb fb : Nat) (l : List Tm) (hB : Bk w base p ev nb fb l) (hb : Cc.Bd l) (hl : l.length ≤ 150) (pa : Option Addr) (pc : Nat) (ks : List Lf) (P : Pb) (fs : List Fm) (hA : Asked w l pa pc ks P fs) (ham : AmOk l.length fs) (Q0 : Pb) (hok : okB P fs (List.range fs.length) = true) (hM : mdlN l fs (List.range fs.length) 2 P = some (none, Q0)) (f : Nat) (r : List Nat) (Q : Pb) (hE : enoB l fs f Q0 [] = some (r, Q)) (T : List Nat) (hT : T.Perm r ∧ T.Pairwise (· < ·)) (hr0 : 0 < r.length) (hTl : T.length ≤ 100) (R : List Nat) (Q2 : Pb) (hC : corB l fs T Q T = some (R, Q2)) :
    Calls Tryz.prog 8 #[.pointer (some ⟨p, 0, none⟩), .slice pa ks.length pc] w fun e w' => ∃ ca cc, e = .returned (.tuple #[.agg #[.bool false, .slice none 0 0, .slice ca R.length cc], .int .i64 0]) ∧ Below w.heap.size w w' := by
  have hB0 : Below w.heap.size w (w.alloc (.cells #[.bool false, .slice none 0 0, .slice none 0 0] 41)) := (Below.refl _ _).alloc (Nat.le_refl _) _
  have CK := check_by (w.alloc (.cells #[.bool false, .slice none 0 0, .slice none 0 0] 41)) (.pointer (some ⟨p, 0, none⟩)) pa ks.length pc true false (areFormulas_in _ base p ev nb fb l (hB.below hB.low hB0) pa ks.length pc ks (hA.sl.below hB0) (by have := hA.cost; omega)) (fun W hW => areMany_in W l.length pa pc ks ((hA.sl.below hB0).below hW) hA.cost)
  have HH : Hid (_ ∧ _ ∧ _ ∧ _ ∧ _ ∧ _ ∧ _ ∧ _ ∧ _ ∧ _) := And.intro hB (And.intro hA (And.intro hM (And.intro ham (And.intro hok (And.intro hE (And.intro hT (And.intro hr0 (And.intro hTl hC))))))))
  have HB0 : Hid _ := hB0
  have hRA := made_row w #[.bool false, .slice none 0 0, .slice none 0 0] 41
  have HRA : Hid _ := hRA
  have hkl : ks.length ≤ 600 := by
    have h1 := sum_cF ks
    have h2 := hA.cost
    unfold cS at h2
    omega
  clear hB hA hM hB0 hRA ham hok hE hT hr0 hTl hC
  go_enter Tryz.func8, Tryz.ntmps8
  go_wp2_with (first | (go_at_call 20; refine CK.mono ?_; rintro e w1 ⟨rfl, B1⟩; refine Aside.out ?_))
  delta Aside
  have hB1 : Below w.heap.size w w1 := HB0.out.trans (B1.mono HB0.out.size)
  have hBk1 := HH.out.1.below HH.out.1.low hB1
  have NW := newProblem_in w1 base p ev nb fb l hBk1 (by omega) pa pc _ ((HH.out.2.1.sl.below hB1).fsm) HH.out.2.1.ok
  rw [List.length_map] at NW
  have ck0 : chkE true false = 0 := rfl
  have hR1 := World.rowIs.of_block HRA.out (B1.block _ (by simp))
  have HR1 : Hid _ := hR1
  have HB1 : Hid (_ ∧ _) := And.intro hB1 hBk1
  have HNW : Hid _ := NW
  simp only [ck0]
  clear CK B1 hB1 hBk1 HRA HB0 NW ck0 hR1
  apply_assumption
  go_wp2_with (first | (go_at_call 21; refine Calls.mono HNW.out ?_; rintro e w2 ⟨pb, vb, kb, ta, tc, fv, lv, S, gs, rfl, N2⟩; refine Aside.out ?_))
  delta Aside
  rw [HH.out.2.1.adds] at N2
  obtain ⟨fa, fc, rfl⟩ := ownsRow_form N2.row
  have hgl : gs.length = fs.length := N2.len
  have c2 : w2.cell? ⟨pb, 2, none⟩ = some (.slice fa gs.length fc) := N2.pm.cells.cell (i := 2) (by omega)
  have hfl : gs.length = ks.length := by
    rw [hgl]
    have := adds_len l.length (ks.map Lf.er) pb0 []
    rw [HH.out.2.1.adds, List.length_map] at this
    simpa using this
  rw [hfl] at c2
  have AL := dall_in w2 pb fa ks.length fc (by omega) c2
  have hfe : fs.length = ks.length := by omega
  have HN2 : Hid (_ ∧ _ ∧ _) := And.intro N2 (And.intro hfl hfe)
  clear HNW N2 hgl hfl hfe c2
  apply_assumption
  go_wp2_with (first | (go_at_call 23; refine AL.mono ?_; rintro e w3 ⟨rfl, R3, B3⟩; refine Aside.out ?_))
  delta Aside
  have N3 := HN2.out.1.below B3
  have R3' := R3.own (by rw [List.length_range]; omega)
  have R3n : w3.ownsRow 0 3 1 (.slice (some ⟨w2.heap.size, 0, none⟩) (List.range ks.length).length (List.range ks.length).length) (List.range ks.length).length (natC (List.range ks.length)) := R3'
  have MD := model_by w1 base p ev nb fb l HB1.out.2 hb hl ta tc fs gs HH.out.2.2.2.1 S w3 pb vb kb _ lv P N3 HH.out.2.1.vrp HH.out.2.1.has 0 (some ⟨w2.heap.size, 0, none⟩) _ (List.range ks.length) R3n (by rw [← HN2.out.2.2]; exact HH.out.2.2.2.2.1) none Q0 (by rw [← HN2.out.2.2]; exact HH.out.2.2.1)
  rw [List.length_range] at MD
  have MD2 : Calls Tryz.prog 22 #[.pointer (some ⟨pb, 0, none⟩), .slice (some ⟨w2.heap.size, 0, none⟩) ks.length ks.length] w3 fun e w' => e = .returned (.tuple #[.slice none 0 0, .bool false]) ∧ Hid (∃ S' lv', Np (PhB w1 l ta tc) w1.heap.size S' w' pb vb kb (.pointer (some ⟨p, 0, none⟩)) (.slice ta l.length tc) (.slice fa gs.length fc) lv' Q0 l.length fs gs ∧ VrP Q0 ∧ HasV fs Q0) := by
    refine MD.mono ?_
    rintro e w4 ⟨S', lv', X4, h1, h2, h3⟩
    exact ⟨h3.1 rfl, S', lv', N3.step N3.bel.size X4, h1, h2⟩
  have HCO : Hid (∀ W, (∃ S' lv', Np (PhB w1 l ta tc) w1.heap.size S' W pb vb kb (.pointer (some ⟨p, 0, none⟩)) (.slice ta l.length tc) (.slice fa gs.length fc) lv' Q0 l.length fs gs ∧ VrP Q0 ∧ HasV fs Q0) → Calls Tryz.prog 24 #[.pointer (some ⟨pb, 0, none⟩)] W fun e w' => ∃ ca cc, e = .returned (.slice ca R.length cc) ∧ Hid (Below w.heap.size w w' ∧ w'.rowIs w.heap.size 41 3 (fun i => (#[.bool false, .slice none 0 0, .slice none 0 0] : Array Value)[i]?.getD undef))) := by
    rintro W ⟨S', lv', N4, h1, h2⟩
    refine (core_in w1 base p ev nb fb l HB1.out.2 hb hl ta tc fs gs HH.out.2.2.2.1 (by rw [HN2.out.2.2]; omega) W S' pb vb kb _ lv' Q0 N4 h1 h2 f r Q HH.out.2.2.2.2.2.1 T HH.out.2.2.2.2.2.2.1 HH.out.2.2.2.2.2.2.2.1 HH.out.2.2.2.2.2.2.2.2.1 R Q2 HH.out.2.2.2.2.2.2.2.2.2).mono ?_
    rintro e w' ⟨ca, cc, rfl, hb14⟩
    exact ⟨ca, cc, rfl, HB1.out.1.trans (hb14.mono HB1.out.1.size), World.rowIs.of_block HR1.out (hb14.block _ (World.rowIs.lt HR1.out))⟩
  clear MD R3' R3n N3 R3 B3 AL HN2 HR1 HH HB1
  obtain ⟨rn, hrn⟩ : ∃ n, R.length = n := ⟨_, rfl⟩
  rw [hrn] at HCO
  have HRN : Hid _ := hrn
  clear hrn
  apply_assumption
  go_wp2_with (first | (go_at_call 22; refine MD2.mono ?_; rintro e w4 ⟨rfl, H4⟩) | (go_at_call 24; refine (HCO.out _ H4.out).mono ?_; rintro e w5 ⟨ca, cc, rfl, H5⟩; refine Aside.out ?_))
  delta Aside
  have a0 := H5.out.2.cell (i := 0) (by omega)
  have a1 := H5.out.2.cell (i := 1) (by omega)
  have a2 := H5.out.2.cell (i := 2) (by omega)
  have f0 := H5.out.2.frozen 0
  have f1 := H5.out.2.frozen 1
  have f2 := H5.out.2.frozen 2
  simp only [List.getElem?_toArray, List.getElem?_cons_zero, List.getElem?_cons_succ, Option.getD_some] at a0 a1 a2
  clear MD2 HCO
  apply_assumption
  go_wp2_with fail
  have R9 := ((H5.out.2.set 0 (.bool false)).set 1 (.slice none 0 0)).set 2 (.slice ca rn cc)
  have B9 : Below w.heap.size w (((w5.setCell ⟨w.heap.size, 0, none⟩ (.bool false)).setCell ⟨w.heap.size, 1, none⟩ (.slice none 0 0)).setCell ⟨w.heap.size, 2, none⟩ (.slice ca rn cc)) := ((H5.out.1.setCell (p := ⟨w.heap.size, 0, none⟩) (Nat.le_refl _) _).setCell (p := ⟨w.heap.size, 1, none⟩) (Nat.le_refl _) _).setCell (p := ⟨w.heap.size, 2, none⟩) (Nat.le_refl _) _
  generalize (((w5.setCell ⟨w.heap.size, 0, none⟩ (.bool false)).setCell ⟨w.heap.size, 1, none⟩ (.slice none 0 0)).setCell ⟨w.heap.size, 2, none⟩ (.slice ca rn cc)) = w9 at *
  have b0 : w9.cell? ⟨w.heap.size, 0, none⟩ = some (.bool false) := R9.cell (i := 0) (by omega)
  have b1 : w9.cell? ⟨w.heap.size, 1, none⟩ = some (.slice none 0 0) := R9.cell (i := 1) (by omega)
  have b2 : w9.cell? ⟨w.heap.size, 2, none⟩ = some (.slice ca rn cc) := R9.cell (i := 2) (by omega)
  exact ⟨rfl, .tuple #[.agg #[.bool false, .slice none 0 0, .slice ca rn cc], .int .i64 0], by simp [results, Tryz.results8, go_sem, b0, b1, b2], ca, cc, by rw [HRN.out], B9⟩
end Go.Proofs.YtlehlgipbhfioaaGreat

namespace Go.Proofs.YtlehlgipbhfioaaGreat
open Go.RowKit Go.Maps

/-- What reading answers: a value, or an error. -/
def Res.bind {α β : Type} (r : Res α) (g : α → Nat → List Tm → Res β) : Res β := match r with
  | .ok x i l => g x i l
  | .bad e p l => .bad e p l

def gEqu (s : ByteArray) (i : Nat) (l : List Tm) : Res Fo :=
  (lTerm s i l).bind fun a k l1 =>
    if stands s (if byt s k = 33 then k + 1 else k) 61 then
      (lTerm s (bl s ((if byt s k = 33 then k + 1 else k) + 1)) l1).bind fun b k2 l2 => .ok (if byt s k = 33 then .neg (.eq a b) else .eq a b) k2 l2
    else .bad 2 (if byt s k = 33 then k + 1 else k) l1

def sgn (lev : Nat) : Nat := if lev = 1 then 124 else 38
def opn (lev : Nat) : Int := if lev = 1 then 3 else 2

mutual
/-- form, or, and, not: the levels 0 to 3. -/
def gp (s : ByteArray) : Nat → Nat → Nat → Nat → List Tm → Res Fo
  | 0, _, _, _, l => .bad 0 0 l
  | f + 1, lev, d, i, l =>
    if lev = 0 then
      (gp s f 1 d i l).bind fun a k l1 =>
        if byt s k = 45 then
          if stands s (k + 1) 62 then (gp s f 0 d (bl s (k + 1 + 1)) l1).bind fun b k2 l2 => .ok (.two 4 a b) k2 l2
          else .bad 2 (k + 1) l1
        else .ok a k l1
    else if lev = 3 then
      if byt s i = 33 then
        if 20 ≤ d then .bad 4 i l else (gp s f 3 (d + 1) (bl s (i + 1)) l).bind fun a k l1 => .ok (.neg a) k l1
      else if byt s i = 40 then
        if 20 ≤ d then .bad 4 i l else (gp s f 0 (d + 1) (bl s (i + 1)) l).bind fun a k l1 => if stands s k 41 then .ok a (bl s (k + 1)) l1 else .bad 2 k l1
      else gEqu s i l
    else (gp s f (lev + 1) d i l).bind fun a k l1 => gl s f lev d k l1 a
/-- The rest of a row. -/
def gl (s : ByteArray) : Nat → Nat → Nat → Nat → List Tm → Fo → Res Fo
  | 0, _, _, _, l, _ => .bad 0 0 l
  | f + 1, lev, d, k, l, a =>
    if byt s k = sgn lev then (gp s f (lev + 1) d (bl s (k + 1)) l).bind fun b k2 l2 => gl s f lev d k2 l2 (.two (opn lev) a b)
    else .ok a k l
end

theorem byt_in {s : ByteArray} {i c : Nat} (h : byt s i = c) (hc : c ≠ 0) : i < s.size := by
  refine Decidable.byContradiction fun hn => ?_
  simp [byt, hn] at h
  exact hc h.symm
theorem stands_of {s : ByteArray} {i c : Nat} (h : byt s i = c) (hc : c ≠ 0) : stands s i c = true := stands_true (byt_in h hc) h

theorem gEqu_ok {s : ByteArray} {i : Nat} {l : List Tm} (hi : i ≤ s.size) {f : Fo} {k : Nat} {l' : List Tm} (h : gEqu s i l = .ok f k l') : i < k ∧ k ≤ s.size := by
  unfold gEqu at h
  cases h1 : lTerm s i l with
  | bad e p l1 => rw [h1] at h; simp [Res.bind] at h
  | ok a k1 l1 =>
    obtain ⟨b1, b2⟩ := lTerm_ok hi h1
    rw [h1] at h
    simp only [Res.bind] at h
    have hq1 : k1 ≤ (if byt s k1 = 33 then k1 + 1 else k1) := by split <;> omega
    generalize (if byt s k1 = 33 then k1 + 1 else k1) = q at h hq1
    cases hs : stands s q 61 with
    | false => rw [hs] at h; simp at h
    | true =>
      rw [hs, if_pos rfl] at h
      have hk := (of_decide_eq_true hs).1
      have hbl := bl_le (s := s) (i := q + 1) (by omega)
      have hbg := bl_ge s (q + 1)
      cases h2 : lTerm s (bl s (q + 1)) l1 with
      | bad e p l2 => rw [h2] at h; simp at h
      | ok b k2 l2 =>
        obtain ⟨c1, c2⟩ := lTerm_ok hbl h2
        rw [h2] at h
        simp only at h
        injection h with _ e2 _
        omega

/-- Places grow. -/
theorem gp_ok (s : ByteArray) : ∀ f : Nat, (∀ lev d i l a k l', i ≤ s.size → gp s f lev d i l = .ok a k l' → i < k ∧ k ≤ s.size) ∧
    (∀ lev d i l a b k l', i ≤ s.size → gl s f lev d i l a = .ok b k l' → i ≤ k ∧ k ≤ s.size)
  | 0 => ⟨fun _ _ _ _ _ _ _ _ e => (by rw [gp] at e; cases e), fun _ _ _ _ _ _ _ _ _ e => (by rw [gl] at e; cases e)⟩
  | f + 1 => by
    obtain ⟨IP, IL⟩ := gp_ok s f
    constructor
    · intro lev d i l a k l' hi h
      rw [gp] at h
      split at h
      · cases h1 : gp s f 1 d i l with
        | bad e p l1 => rw [h1] at h; simp [Res.bind] at h
        | ok a1 k1 l1 =>
          obtain ⟨b1, b2⟩ := IP _ _ _ _ _ _ _ hi h1
          rw [h1] at h
          simp only [Res.bind] at h
          split at h
          · split at h
            · next hs =>
              have hk := (of_decide_eq_true hs).1
              have hbl := bl_le (s := s) (i := k1 + 1 + 1) (by omega)
              have hbg := bl_ge s (k1 + 1 + 1)
              split at h
              · next b k2 l2 h2 =>
                obtain ⟨c1, c2⟩ := IP _ _ _ _ _ _ _ hbl h2
                injection h with _ e2 _
                omega
              · cases h
            · cases h
          · injection h with _ e2 _
            omega
      · split at h
        · split at h
          · next h33 =>
            have hi2 := byt_in h33 (by omega)
            have hbl := bl_le (s := s) (i := i + 1) (by omega)
            have hbg := bl_ge s (i + 1)
            split at h
            · cases h
            · cases h1 : gp s f 3 (d + 1) (bl s (i + 1)) l with
              | bad e p l1 => rw [h1] at h; simp [Res.bind] at h
              | ok a1 k1 l1 =>
                obtain ⟨b1, b2⟩ := IP _ _ _ _ _ _ _ hbl h1
                rw [h1] at h
                simp only [Res.bind] at h
                injection h with _ e2 _
                omega
          · split at h
            · next h40 =>
              have hi2 := byt_in h40 (by omega)
              have hbl := bl_le (s := s) (i := i + 1) (by omega)
              have hbg := bl_ge s (i + 1)
              split at h
              · cases h
              · cases h1 : gp s f 0 (d + 1) (bl s (i + 1)) l with
                | bad e p l1 => rw [h1] at h; simp [Res.bind] at h
                | ok a1 k1 l1 =>
                  obtain ⟨b1, b2⟩ := IP _ _ _ _ _ _ _ hbl h1
                  rw [h1] at h
                  simp only [Res.bind] at h
                  split at h
                  · next hs =>
                    have hk := (of_decide_eq_true hs).1
                    have hbl2 := bl_le (s := s) (i := k1 + 1) (by omega)
                    have hbg2 := bl_ge s (k1 + 1)
                    injection h with _ e2 _
                    omega
                  · cases h
            · exact gEqu_ok hi h
        · cases h1 : gp s f (lev + 1) d i l with
          | bad e p l1 => rw [h1] at h; simp [Res.bind] at h
          | ok a1 k1 l1 =>
            obtain ⟨b1, b2⟩ := IP _ _ _ _ _ _ _ hi h1
            rw [h1] at h
            simp only [Res.bind] at h
            have := IL _ _ _ _ _ _ _ _ b2 h
            omega
    · intro lev d i l a b k l' hi h
      rw [gl] at h
      split at h
      · next hb =>
        have hi2 := byt_in hb (by unfold sgn; split <;> omega)
        have hbl := bl_le (s := s) (i := i + 1) (by omega)
        have hbg := bl_ge s (i + 1)
        cases h1 : gp s f (lev + 1) d (bl s (i + 1)) l with
        | bad e p l1 => rw [h1] at h; simp [Res.bind] at h
        | ok a1 k1 l1 =>
          obtain ⟨b1, b2⟩ := IP _ _ _ _ _ _ _ hbl h1
          rw [h1] at h
          simp only [Res.bind] at h
          have := IL _ _ _ _ _ _ _ _ b2 h
          omega
      · injection h with _ e2 _
        omega

end Go.Proofs.YtlehlgipbhfioaaGreat

namespace Go.Proofs.YtlehlgipbhfioaaGreat
open Go.RowKit Go.Maps

/-- What a function that reads a formula leaves. -/
def FoPost (base r p nb fb : Nat) (s : ByteArray) (d : Nat) (w : World) (ev : Value) : Res Fo → Ending → World → Prop
  | .ok f k l', e, w' => ∃ v, e = .returned v ∧ FVal w.heap.size w' v f ∧ ∃ ev', PB w' base r p ev' nb fb s k d l' ∧ Grew (fun k => k = r) p nb fb w ev w' ev'
  | .bad c q l', e, w' => e = .panicked [{ v := grefusalV c q, recovered := false }] ∧ ∃ ev' k d', PB w' base r p ev' nb fb s k d' l' ∧ Grew (fun k => k = r) p nb fb w ev w' ev'

/-- The place is another one. -/
theorem PB.step {w : World} {base r p : Nat} {ev : Value} {nb fb : Nat} {s : ByteArray} {i d : Nat} {l : List Tm} (h : PB w base r p ev nb fb s i d l) {k : Nat} (hk : k ≤ s.size) :
    PB (w.setCell ⟨r, 2, none⟩ (.int .i64 (k : Int))) base r p ev nb fb s k d l ∧ Grew (fun k => k = r) p nb fb w ev (w.setCell ⟨r, 2, none⟩ (.int .i64 (k : Int))) ev :=
  h.read (Kept1.set (Kept.refl _ w) 2 _) (h.lp.step hk)
theorem PB.deep {w : World} {base r p : Nat} {ev : Value} {nb fb : Nat} {s : ByteArray} {i d : Nat} {l : List Tm} (h : PB w base r p ev nb fb s i d l) (e : Nat) :
    PB (w.setCell ⟨r, 3, none⟩ (.int .u64 (e : Int))) base r p ev nb fb s i e l ∧ Grew (fun k => k = r) p nb fb w ev (w.setCell ⟨r, 3, none⟩ (.int .u64 (e : Int))) ev :=
  h.read (Kept1.set (Kept.refl _ w) 3 _) (h.lp.deep e)

/-- must, told of parser and bank. -/
theorem must_at (w : World) (base r p : Nat) (ev : Value) (nb fb : Nat) (s : ByteArray) (i d : Nat) (l : List Tm) (h : PB w base r p ev nb fb s i d l) (c : Nat) (hst : stands s i c = true) :
    Calls Tryz.prog 112 #[.pointer (some ⟨r, 0, none⟩), .int .u8 (c : Int)] w fun e w' => e = .returned (.tuple #[]) ∧ PB w' base r p ev nb fb s (bl s (i + 1)) d l ∧ Grew (fun k => k = r) p nb fb w ev w' ev :=
  (must_yes w r _ s i d h.lp c hst).mono (by rintro e w' ⟨h1, h2, h3⟩; exact ⟨h1, h.read h3 h2⟩)
theorem must_bad (w : World) (base r p : Nat) (ev : Value) (nb fb : Nat) (s : ByteArray) (i d : Nat) (l : List Tm) (h : PB w base r p ev nb fb s i d l) (c : Nat) (hc : c ≠ 0) (hst : stands s i c = false) :
    Calls Tryz.prog 112 #[.pointer (some ⟨r, 0, none⟩), .int .u8 (c : Int)] w fun e w' => e = .panicked [{ v := grefusalV 2 (i : Int), recovered := false }] ∧ PB w' base r p ev nb fb s i d l ∧ Grew (fun k => k = r) p nb fb w ev w' ev :=
  (must_no w r _ s i d h.lp c hc hst).mono (by rintro e w' ⟨h1, h2⟩; exact ⟨h1, h.kept0 h2⟩)
theorem next_at (w : World) (base r p : Nat) (ev : Value) (nb fb : Nat) (s : ByteArray) (i d : Nat) (l : List Tm) (h : PB w base r p ev nb fb s i d l) :
    Calls Tryz.prog 110 #[.pointer (some ⟨r, 0, none⟩)] w fun e w' => e = .returned (.int .u8 (byt s i : Int)) ∧ PB w' base r p ev nb fb s i d l ∧ Grew (fun k => k = r) p nb fb w ev w' ev :=
  (next_k w r _ s i d h.lp).mono (by rintro e w' ⟨h1, h2⟩; exact ⟨h1, h.kept0 h2⟩)

theorem rowIs_keep {B : Nat} {W W' : World} (K : FKeep B W W') {b n : Nat} {f : Nat → Value} (hb : B ≤ b) (h : W.rowIs b 36 n f) : W'.rowIs b 36 n f := by
  obtain ⟨c, h1, h2⟩ := h
  exact ⟨c, K b c (0, 0) hb h1, h2⟩
/-- A block of Forms is another one than the parser's and the bank's. -/
theorem PB.setForm {w : World} {base r p : Nat} {ev : Value} {nb fb : Nat} {s : ByteArray} {i d : Nat} {l : List Tm} (h : PB w base r p ev nb fb s i d l) {b n : Nat} {f : Nat → Value} (hb : w.rowIs b 36 n f) (o : Nat) (u : Value) : PB (w.setCell ⟨b, o, none⟩ u) base r p ev nb fb s i d l := by
  obtain ⟨c, hc, _⟩ := hb
  have K : Kept1 b w (w.setCell ⟨b, o, none⟩ u) := Kept1.set (Kept.refl _ w) o u
  have n1 : r ≠ b := fun e => rowIs_ne h.lp.row (by decide) c (0, 0) (e ▸ hc)
  exact ⟨h.lp.of_block (K.block r h.lp.row.lt n1), h.bk.kept1 K (fun e => h.bk.noForm (Or.inl rfl) c (0, 0) (e ▸ hc)) (fun e => h.bk.noForm (Or.inr (Or.inl rfl)) c (0, 0) (e ▸ hc)) (fun e => h.bk.noForm (Or.inr (Or.inr (Or.inl rfl))) c (0, 0) (e ▸ hc)) (fun e => h.bk.noForm (Or.inr (Or.inr (Or.inr e))) c (0, 0) hc), h.rp, h.rn, h.rf, h.er, Nat.le_trans h.bs K.size, h.few⟩
theorem Grew.fresh {X : Nat → Prop} {p nb fb : Nat} {a b : World} {ea eb : Value} (h : Grew X p nb fb a ea b eb) {x : Nat} (hx : a.heap.size ≤ x) (o : Nat) (u : Value) : Grew X p nb fb a ea (b.setCell ⟨x, o, none⟩ u) eb := by
  refine ⟨⟨h.kept.os, h.kept.tape, h.kept.output, ?_, fun k hk hs => ?_⟩, h.row⟩
  · have := h.kept.size
    simp [World.setCell]
    exact this
  · rw [Below.heap_setCell _ _ _ _ (by show k ≠ x; omega)]
    exact h.kept.block k hk hs

/-- A Form in a box. -/
def frm (v0 v1 v2 v3 : Value) (j : Nat) : Value := if j = 0 then v0 else if j = 1 then v1 else if j = 2 then v2 else v3
/-- Another Form is put into a box. -/
abbrev put4 (w : World) (b : Nat) (v0 v1 v2 v3 : Value) : World := (((w.setCell ⟨b, 0, none⟩ v0).setCell ⟨b, 1, none⟩ v1).setCell ⟨b, 2, none⟩ v2).setCell ⟨b, 3, none⟩ v3

theorem made_form (w : World) (v0 v1 v2 v3 : Value) : (w.alloc (.cells #[v0, v1, v2, v3] 36)).rowIs w.heap.size 36 4 (frm v0 v1 v2 v3) :=
  World.rowIs.congr (made_row w #[v0, v1, v2, v3] 36) (fun j hj => by
    have hj' : j < 4 := hj
    rcases (by omega : j = 0 ∨ j = 1 ∨ j = 2 ∨ j = 3) with rfl | rfl | rfl | rfl <;> rfl)
theorem put_form {w : World} {b : Nat} {f : Nat → Value} (h : w.rowIs b 36 4 f) (v0 v1 v2 v3 : Value) : (put4 w b v0 v1 v2 v3).rowIs b 36 4 (frm v0 v1 v2 v3) :=
  World.rowIs.congr ((((h.set 0 v0).set 1 v1).set 2 v2).set 3 v3) (fun j hj => by
    rcases (by omega : j = 0 ∨ j = 1 ∨ j = 2 ∨ j = 3) with rfl | rfl | rfl | rfl <;> simp [frm])
theorem put_keep {w : World} {b B : Nat} (hb : b < B) (v0 v1 v2 v3 : Value) : FKeep B w (put4 w b v0 v1 v2 v3) :=
  (((FKeep.setCell w hb 0 v0).trans (FKeep.setCell _ hb 1 v1)).trans (FKeep.setCell _ hb 2 v2)).trans (FKeep.setCell _ hb 3 v3)
theorem PB.put4 {w : World} {base r p : Nat} {ev : Value} {nb fb : Nat} {s : ByteArray} {i d : Nat} {l : List Tm} (h : PB w base r p ev nb fb s i d l) {b : Nat} {f : Nat → Value} (hb : w.rowIs b 36 4 f) (v0 v1 v2 v3 : Value) : PB (put4 w b v0 v1 v2 v3) base r p ev nb fb s i d l :=
  (((h.setForm hb 0 v0).setForm (hb.set 0 v0) 1 v1).setForm ((hb.set 0 v0).set 1 v1) 2 v2).setForm (((hb.set 0 v0).set 1 v1).set 2 v2) 3 v3
theorem Grew.put4 {X : Nat → Prop} {p nb fb : Nat} {a w : World} {ea eb : Value} (h : Grew X p nb fb a ea w eb) {b : Nat} (hb : a.heap.size ≤ b) (v0 v1 v2 v3 : Value) : Grew X p nb fb a ea (put4 w b v0 v1 v2 v3) eb :=
  (((h.fresh hb 0 v0).fresh hb 1 v1).fresh hb 2 v2).fresh hb 3 v3
theorem form_cells {w : World} {b : Nat} {v0 v1 v2 v3 : Value} (h : w.rowIs b 36 4 (frm v0 v1 v2 v3)) : w.cell? ⟨b, 0, none⟩ = some v0 ∧ w.cell? ⟨b, 1, none⟩ = some v1 ∧ w.cell? ⟨b, 2, none⟩ = some v2 ∧ w.cell? ⟨b, 3, none⟩ = some v3 :=
  ⟨h.cell (i := 0) (by omega), h.cell (i := 1) (by omega), h.cell (i := 2) (by omega), h.cell (i := 3) (by omega)⟩

set_option maxRecDepth 100000 in
set_option maxHeartbeats 1000000 in
theorem equality_in (w : World) (base r p : Nat) (ev : Value) (nb fb : Nat) (s : ByteArray) (i d : Nat) (l : List Tm) (h : PB w base r p ev nb fb s i d l) :
    Calls Tryz.prog 233 #[.pointer (some ⟨r, 0, none⟩)] w (FoPost base r p nb fb s d w ev (gEqu s i l)) := by
  have hle := h.lp.le
  have hsm := h.lp.small
  have A1 := fun (o : Obj) => h.kept0 (Kept.alloc (Kept.refl _ w) o)
  have T1 := fun (o : Obj) => lterm_in (w.alloc o) base r p ev nb fb s i d l (A1 o).1
  go_enter Tryz.func233, Tryz.ntmps233
  unfold gEqu
  cases h1 : lTerm s i l with
  | bad c q l1 =>
    rw [h1] at T1
    go_wp2_with (first | (go_at_call 251; refine (T1 _).mono ?_; rintro e w2 ⟨rfl, ev2, k2, P2, G2⟩))
    exact ⟨rfl, rfl, ev2, k2, d, P2, (A1 _).2.trans G2⟩
  | ok a k l1 =>
    rw [h1] at T1
    obtain ⟨hk1, hk2⟩ := lTerm_ok hle h1
    simp only [Res.bind]
    by_cases h33 : byt s k = 33
    · simp only [h33, if_true]
      have d33 : ((byt s k : Int) == 33) = true := by simp; omega
      have hk0 := byt_in h33 (by omega)
      cases hs : stands s (k + 1) 61 with
      | false =>
        rw [if_neg (by simp)]
        go_wp2_with (first | (go_at_call 251; refine (T1 _).mono ?_; clear T1; rintro e w2 ⟨rfl, ev2, P2, G2⟩; have NX := next_at w2 base r p ev2 nb fb s k d l1 P2) | (go_at_call 110; refine NX.mono ?_; rintro e w3 ⟨rfl, P3, G3⟩; have d2 := P3.lp.c2; have f2 := P3.lp.row.frozen 2; have P3' := P3.step (k := k + 1) (by omega); rw [show ((k + 1 : Nat) : Int) = (k : Int) + 1 from by omega] at P3'; have MU := must_bad _ base r p ev2 nb fb s (k + 1) d l1 P3'.1 61 (by omega) hs) | (go_at_call 112; refine MU.mono ?_; rintro e w4 ⟨rfl, P4, G4⟩))
        exact ⟨rfl, by simp [grefusalV], ev2, _, d, P4, ((((A1 _).2.trans G2).trans G3).trans P3'.2).trans G4⟩
      | true =>
        rw [if_pos rfl]
        have hk3 := (of_decide_eq_true hs).1
        have hbl := bl_le (s := s) (i := k + 1 + 1) (by omega)
        cases h2 : lTerm s (bl s (k + 1 + 1)) l1 with
        | bad c q l2 =>
          go_wp2_with (first | (go_at_call 251; refine T2.mono ?_; rintro e w5 ⟨rfl, ev5, k5, P5, G5⟩) | (go_at_call 251; refine (T1 _).mono ?_; clear T1; rintro e w2 ⟨rfl, ev2, P2, G2⟩; have NX := next_at w2 base r p ev2 nb fb s k d l1 P2) | (go_at_call 110; refine NX.mono ?_; rintro e w3 ⟨rfl, P3, G3⟩; have d2 := P3.lp.c2; have f2 := P3.lp.row.frozen 2; have P3' := P3.step (k := k + 1) (by omega); rw [show ((k + 1 : Nat) : Int) = (k : Int) + 1 from by omega] at P3'; have MU := must_at _ base r p ev2 nb fb s (k + 1) d l1 P3'.1 61  hs) | (go_at_call 112; refine MU.mono ?_; rintro e w4 ⟨rfl, P4, G4⟩; have T2 := lterm_in w4 base r p ev2 nb fb s (bl s (k + 1 + 1)) d l1 P4; rw [h2] at T2))
          exact ⟨rfl, rfl, ev5, k5, d, P5, (((((A1 _).2.trans G2).trans G3).trans P3'.2).trans G4).trans G5⟩
        | ok b k2 l2 =>
          go_wp2_with (first | (go_at_call 251; refine T2.mono ?_; rintro e w5 ⟨rfl, ev5, P5, G5⟩; have F5 := rowIs_keep ((((A1 _).1.fkeep G2 w.heap.size).trans (((P2.fkeep G3 w.heap.size).trans (P3.fkeep P3'.2 _)).trans (P3'.1.fkeep G4 _))).trans (P4.fkeep G5 _)) (Nat.le_refl _) (made_form w (.int .i64 0) (.int .i64 0) (.int .i64 0) (.slice none 0 0)); obtain ⟨z0, z1, z2, z3⟩ := form_cells F5; have y0 := World.rowIs.frozen F5 0; have y1 := World.rowIs.frozen F5 1; have y2 := World.rowIs.frozen F5 2; have y3 := World.rowIs.frozen F5 3; have hlt := World.rowIs.lt F5) | (go_at_call 251; refine (T1 _).mono ?_; clear T1; rintro e w2 ⟨rfl, ev2, P2, G2⟩; have NX := next_at w2 base r p ev2 nb fb s k d l1 P2) | (go_at_call 110; refine NX.mono ?_; rintro e w3 ⟨rfl, P3, G3⟩; have d2 := P3.lp.c2; have f2 := P3.lp.row.frozen 2; have P3' := P3.step (k := k + 1) (by omega); rw [show ((k + 1 : Nat) : Int) = (k : Int) + 1 from by omega] at P3'; have MU := must_at _ base r p ev2 nb fb s (k + 1) d l1 P3'.1 61  hs) | (go_at_call 112; refine MU.mono ?_; rintro e w4 ⟨rfl, P4, G4⟩; have T2 := lterm_in w4 base r p ev2 nb fb s (bl s (k + 1 + 1)) d l1 P4; rw [h2] at T2))
          have K6 := P5.kept0 (Kept.alloc (Kept.refl _ w5) (.cells #[.int .i64 0, .int .i64 (a : Int), .int .i64 (b : Int), .slice none 0 0] 36))
          have F6 := rowIs_keep (FKeep.alloc w.heap.size w5 (.cells #[.int .i64 0, .int .i64 (a : Int), .int .i64 (b : Int), .slice none 0 0] 36)) (Nat.le_refl _) F5
          have NG := negation_in (w5.alloc (.cells #[.int .i64 0, .int .i64 (a : Int), .int .i64 (b : Int), .slice none 0 0] 36)) (w.heap.size + 1) _ _ (FVal.eq (w.heap.size + 1) _ (a : Int) (b : Int)) (by simp; omega)
          clear z0 z1 z2 z3 y0 y1 y2 y3 T2 MU NX d2 f2
          go_wp2_with (first | (go_at_call 231; refine NG.mono ?_; rintro e w6 ⟨u, rfl, V6, KK6⟩; obtain ⟨op6, x6, y6, a6, n6, cap6, rfl⟩ := V6.form; have P7 := K6.1.kept0 KK6; have F7 := rowIs_keep (FKeep.kept0 KK6 w.heap.size) (Nat.le_refl _) F6; obtain ⟨z0, z1, z2, z3⟩ := form_cells F7; have t0 := World.rowIs.frozen F7 0; have t1 := World.rowIs.frozen F7 1; have t2 := World.rowIs.frozen F7 2; have t3 := World.rowIs.frozen F7 3))
          have F8 := put_form F7 (.int .i64 op6) (.int .i64 x6) (.int .i64 y6) (.slice a6 n6 cap6)
          have P8 := P7.1.put4 F7 (.int .i64 op6) (.int .i64 x6) (.int .i64 y6) (.slice a6 n6 cap6)
          have V8 := (V6.keep (put_keep (Nat.lt_succ_self w.heap.size) (.int .i64 op6) (.int .i64 x6) (.int .i64 y6) (.slice a6 n6 cap6))).mono (Nat.le_succ _)
          have G8 := (((((((((A1 _).2.trans G2).trans G3).trans P3'.2).trans G4).trans G5).trans K6.2).trans P7.2)).put4 (Nat.le_refl w.heap.size) (.int .i64 op6) (.int .i64 x6) (.int .i64 y6) (.slice a6 n6 cap6)
          clear z0 z1 z2 z3 t0 t1 t2 t3
          obtain ⟨z0, z1, z2, z3⟩ := form_cells F8
          unfold Go.Proofs.YtlehlgipbhfioaaGreat.put4 at F8 P8 V8 G8 z0 z1 z2 z3
          generalize ((((w6).setCell ⟨w.heap.size, 0, none⟩ (.int .i64 op6)).setCell ⟨w.heap.size, 1, none⟩ (.int .i64 x6)).setCell ⟨w.heap.size, 2, none⟩ (.int .i64 y6)).setCell ⟨w.heap.size, 3, none⟩ (.slice a6 n6 cap6) = w8 at P8 V8 G8 z0 z1 z2 z3 ⊢
          refine ⟨rfl, .agg #[.int .i64 op6, .int .i64 x6, .int .i64 y6, .slice a6 n6 cap6], by simp [results, Tryz.results233, go_sem, z0, z1, z2, z3], ?_⟩
          exact ⟨_, rfl, V8, ev5, P8, G8⟩
    · simp only [h33, if_false]
      have d33 : ((byt s k : Int) == 33) = false := by simp; omega
      cases hs : stands s (k) 61 with
      | false =>
        rw [if_neg (by simp)]
        go_wp2_with (first | (go_at_call 251; refine (T1 _).mono ?_; clear T1; rintro e w2 ⟨rfl, ev2, P2, G2⟩; have NX := next_at w2 base r p ev2 nb fb s k d l1 P2) | (go_at_call 110; refine NX.mono ?_; rintro e w3 ⟨rfl, P3, G3⟩; have MU := must_bad w3 base r p ev2 nb fb s k d l1 P3 61 (by omega) hs) | (go_at_call 112; refine MU.mono ?_; rintro e w4 ⟨rfl, P4, G4⟩))
        exact ⟨rfl, by simp [grefusalV], ev2, _, d, P4, (((A1 _).2.trans G2).trans G3).trans G4⟩
      | true =>
        rw [if_pos rfl]
        have hk3 := (of_decide_eq_true hs).1
        have hbl := bl_le (s := s) (i := k + 1) (by omega)
        cases h2 : lTerm s (bl s (k + 1)) l1 with
        | bad c q l2 =>
          go_wp2_with (first | (go_at_call 251; refine T2.mono ?_; rintro e w5 ⟨rfl, ev5, k5, P5, G5⟩) | (go_at_call 251; refine (T1 _).mono ?_; clear T1; rintro e w2 ⟨rfl, ev2, P2, G2⟩; have NX := next_at w2 base r p ev2 nb fb s k d l1 P2) | (go_at_call 110; refine NX.mono ?_; rintro e w3 ⟨rfl, P3, G3⟩; have MU := must_at w3 base r p ev2 nb fb s k d l1 P3 61  hs) | (go_at_call 112; refine MU.mono ?_; rintro e w4 ⟨rfl, P4, G4⟩; have T2 := lterm_in w4 base r p ev2 nb fb s (bl s (k + 1)) d l1 P4; rw [h2] at T2))
          exact ⟨rfl, rfl, ev5, k5, d, P5, ((((A1 _).2.trans G2).trans G3).trans G4).trans G5⟩
        | ok b k2 l2 =>
          go_wp2_with (first | (go_at_call 251; refine T2.mono ?_; rintro e w5 ⟨rfl, ev5, P5, G5⟩; have F5 := rowIs_keep ((((A1 _).1.fkeep G2 w.heap.size).trans ((P2.fkeep G3 w.heap.size).trans (P3.fkeep G4 _))).trans (P4.fkeep G5 _)) (Nat.le_refl _) (made_form w (.int .i64 0) (.int .i64 0) (.int .i64 0) (.slice none 0 0)); obtain ⟨z0, z1, z2, z3⟩ := form_cells F5; have y0 := World.rowIs.frozen F5 0; have y1 := World.rowIs.frozen F5 1; have y2 := World.rowIs.frozen F5 2; have y3 := World.rowIs.frozen F5 3; have hlt := World.rowIs.lt F5) | (go_at_call 251; refine (T1 _).mono ?_; clear T1; rintro e w2 ⟨rfl, ev2, P2, G2⟩; have NX := next_at w2 base r p ev2 nb fb s k d l1 P2) | (go_at_call 110; refine NX.mono ?_; rintro e w3 ⟨rfl, P3, G3⟩; have MU := must_at w3 base r p ev2 nb fb s k d l1 P3 61  hs) | (go_at_call 112; refine MU.mono ?_; rintro e w4 ⟨rfl, P4, G4⟩; have T2 := lterm_in w4 base r p ev2 nb fb s (bl s (k + 1)) d l1 P4; rw [h2] at T2))
          have F6 := put_form F5 (.int .i64 0) (.int .i64 (a : Int)) (.int .i64 (b : Int)) (.slice none 0 0)
          have P6 := P5.put4 F5 (.int .i64 0) (.int .i64 (a : Int)) (.int .i64 (b : Int)) (.slice none 0 0)
          have G6 := (((((A1 _).2.trans G2).trans G3).trans G4).trans G5).put4 (Nat.le_refl w.heap.size) (.int .i64 0) (.int .i64 (a : Int)) (.int .i64 (b : Int)) (.slice none 0 0)
          clear z0 z1 z2 z3 y0 y1 y2 y3 T2 MU NX
          unfold Go.Proofs.YtlehlgipbhfioaaGreat.put4 at F6 P6 G6
          generalize ((((w5).setCell ⟨w.heap.size, 0, none⟩ (.int .i64 0)).setCell ⟨w.heap.size, 1, none⟩ (.int .i64 (a : Int))).setCell ⟨w.heap.size, 2, none⟩ (.int .i64 (b : Int))).setCell ⟨w.heap.size, 3, none⟩ (.slice none 0 0) = w6 at F6 P6 G6 ⊢
          have P7 := P6.kept0 (Kept.alloc (Kept.refl _ w6) (.cells #[.int .i64 0, .int .i64 (a : Int), .int .i64 (b : Int), .slice none 0 0] 36))
          have F7 := rowIs_keep (FKeep.alloc w.heap.size w6 (.cells #[.int .i64 0, .int .i64 (a : Int), .int .i64 (b : Int), .slice none 0 0] 36)) (Nat.le_refl _) F6
          generalize w6.alloc (.cells #[.int .i64 0, .int .i64 (a : Int), .int .i64 (b : Int), .slice none 0 0] 36) = w7 at P7 F7 ⊢
          obtain ⟨z0, z1, z2, z3⟩ := form_cells F7
          refine ⟨rfl, .agg #[.int .i64 0, .int .i64 (a : Int), .int .i64 (b : Int), .slice none 0 0], by simp [results, Tryz.results233, go_sem, z0, z1, z2, z3], ?_⟩
          exact ⟨_, rfl, FVal.eq _ _ _ _, ev5, P7.1, G6.trans P7.2⟩

end Go.Proofs.YtlehlgipbhfioaaGreat
