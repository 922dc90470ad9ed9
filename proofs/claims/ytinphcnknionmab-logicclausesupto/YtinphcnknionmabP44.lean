/- The document's search: Search. LogicClauses, plainly: the document's search over the clauses says what the formula says. -/
import Derived.Test.YtinphcnknionmabP30
import Derived.Test.YtinphcnknionmabP40
import Derived.Test.YtinphcnknionmabP00
import Derived.Test.YtinphcnknionmabP42
import Derived.Test.YtinphcnknionmabCnC
namespace Go.Proofs.Ytinphcnknionmab
open Go.RowKit Go.Maps Go.WideShapes

theorem Cl2.below {w w' : World} {ca : Option Addr} {cs : List (List Int)} (hB : Below w.heap.size w w') (h : Cl2 w ca cs) : Cl2 w' ca cs := by
  rcases h with e | ⟨g, off, h1, h2⟩
  · exact Or.inl e
  · refine Or.inr ⟨g, off, h1, fun i c hi => ?_⟩
    obtain ⟨a, cap, q1, q2⟩ := h2 i c hi
    exact ⟨a, cap, (hB.cell (World.block_lt_of_cell? w _ q1)).trans q1, q2.below hB⟩

/-- append(nil, values...): a copy, a row of one's own. -/
theorem copy_rw (w : World) (ty : TypeId) (a : Option Addr) (cc : Nat) (vs : List Int) (hc : ClsAt w a vs) (hl : vs.length ≤ 1048576) (hne : vs ≠ []) :
    ∃ g oc w', (Builtin.append_ #[27, 27] ty #[.slice none 0 0, .slice a vs.length cc]).run Try.prog w = .ok (.slice (some ⟨g, 0, none⟩) vs.length oc) w' ∧ Rw w' g vs ∧ w.heap.size ≤ g ∧ Below w.heap.size w w' := by
  rcases hc with e | ⟨ga, off, rfl, hcell⟩
  · exact absurd e hne
  · obtain ⟨i0, hi0, hz0, hz1, hz2⟩ := info_parts infoIntL
    have hnews : ∀ j u, (clsC vs)[j]? = some u → w.cell? ((⟨ga, off, none⟩ : Addr).add j) = some u := by
      intro j u hj
      simp only [clsC, List.getElem?_map] at hj
      obtain ⟨c, hj', rfl⟩ := Option.map_eq_some_iff.1 hj
      rw [add_plain]
      exact hcell j c hj'
    obtain ⟨v', w', hr, h2, h3, _, _⟩ := run_append_own_at (P := Try.prog) w w.heap.size 27 ty 3 i0 (.int .i64 0) 1 8 Try.underlying27 hi0 hz0 hz1 hz2 rfl (by decide) (.slice none 0 0) 0 [] (World.ownsRow_nil _ _ _ _) ⟨ga, off, none⟩ vs.length cc (clsC vs) (by simp [clsC]) hnews (by
      intro u hu
      obtain ⟨c, _, rfl⟩ := List.mem_map.1 hu
      rfl) (by unfold maxLen; omega) (by omega) (Nat.le_refl _)
    rw [Nat.zero_add, List.nil_append] at h2
    have hB : Below w.heap.size w w' := ⟨h3.os, h3.tape, h3.output, h3.size, fun k hk => h3.block k hk (by simp [Value.ownBlock])⟩
    rcases h2.2 with ⟨e, h0⟩ | ⟨g, cap, cur, e, e1, e2, e3, e4, e5, e6⟩
    · exact absurd (List.length_eq_zero_iff.1 h0) hne
    · subst e
      have get : ∀ j u, (clsC vs)[j]? = some u → cur[j]? = some u := fun j u hu => by
        rw [← e6, List.getElem?_take] at hu
        split at hu
        · simpa using hu
        · cases hu
      have hsz : vs.length ≤ cur.size := by
        have h7 : ∀ j, j < vs.length → j < cur.size := fun j hj => by
          have := get j (.int .i64 vs[j]) (by simp [clsC, hj])
          exact (Array.getElem?_eq_some_iff.1 this).1
        have := h7 (vs.length - 1) (by have : vs.length ≠ 0 := fun e => hne (List.length_eq_zero_iff.1 e); omega)
        omega
      refine ⟨g, cap, w', hr, ⟨cur.size, fun i => cur[i]?.getD undef, hsz, ⟨cur, e2, rfl, fun i hi => by simp [hi]⟩, fun j c hj => ?_⟩, e1, hB⟩
      have := get j (.int .i64 c) (by simp [clsC, hj])
      simp [this]

/-- What is known between two steps. -/
structure SrS (w W : World) (g : Nat) (us : List Int) (n z : Nat) : Prop where
  below : Below w.heap.size w W
  ge : w.heap.size ≤ g
  row : Rw W g us
  len : us.length = n
  tri : Cn.Tri us
  zs : Cn.zs us ≤ z
theorem SrS.set {w W : World} {g : Nat} {us : List Int} {n z : Nat} (h : SrS w W g us n z) {i : Nat} (hi : i < n) (h0 : us[i]?.getD 0 = 0) (b : Bool) : SrS w (W.setCell ⟨g, i, none⟩ (.int .i64 (if b then 1 else -1))) g (us.set i (if b then 1 else -1)) n z := by
  have hz := Cn.zs_set (vs := us) (v := i) (by rw [h.len]; exact hi) h0 b
  exact ⟨h.below.setCell (p := ⟨g, i, none⟩) h.ge _, h.ge, h.row.set i _, by rw [List.length_set]; exact h.len, Cn.set_tri h.tri i b, by have := h.zs; omega⟩
theorem SrS.keep {w W W' : World} {g : Nat} {us : List Int} {n z : Nat} (h : SrS w W g us n z) (hB : Below W.heap.size W W') : SrS w W' g us n z :=
  ⟨h.below.trans (hB.mono h.below.size), h.ge, h.row.block (hB.block g h.row.lt), h.len, h.tri, h.zs⟩

structure CsOk (cs : List (List Int)) (n : Nat) : Prop where
  inv : Cn.InV n cs
  len : cs.length ≤ 1099511627776
  each : ∀ c ∈ cs, c.length ≤ 1099511627776

def SrT (cs : List (List Int)) (f : Nat) : Prop := ∀ (w : World) (ca : Option Addr) (cc : Nat) (a : Option Addr) (cap : Nat) (vs : List Int), Cl2 w ca cs → ClsAt w a vs → Cn.Tri vs → CsOk cs vs.length → vs.length ≤ 1048576 → vs ≠ [] → Cn.zs vs < f →
  Calls Try.prog 32 #[.slice ca cs.length cc, .slice a vs.length cap] w fun e w' => ∃ sa sn sc, e = .returned (.tuple #[.slice sa sn sc, .bool (Cn.srch cs f vs)]) ∧ Below w.heap.size w w'

set_option maxRecDepth 100000 in
set_option maxHeartbeats 4000000 in
theorem sr_step (cs : List (List Int)) (f : Nat) (ih : SrT cs f) : SrT cs (f + 1) := by
  intro w ca cc a cap vs hcs hv ht hok hl hne hz
  have H1 : Hid (∀ (W : World) (g oc : Nat) (us : List Int), SrS w W g us vs.length (Cn.zs vs) → Calls Try.prog 46 #[.slice ca cs.length cc, .slice (some ⟨g, 0, none⟩) vs.length oc] W fun e w' => e = .returned (.tuple #[.int .i64 (Cn.forc us cs).1, .bool (Cn.forc us cs).2]) ∧ W = w') := fun W g oc us h => by
    have hc : Cl2 W ca cs := hcs.below h.below
    have := forced6_in W ca cc cs hc (some ⟨g, 0, none⟩) oc us h.row.cls h.tri (by rw [h.len]; omega) (by rw [h.len]; exact hok.inv) hok.len hok.each
    rw [h.len] at this
    exact this
  have H2 : Hid (∀ (W : World) (g oc : Nat) (us : List Int), SrS w W g us vs.length (Cn.zs us) → Cn.zs us < f → Calls Try.prog 32 #[.slice ca cs.length cc, .slice (some ⟨g, 0, none⟩) vs.length oc] W fun e w' => ∃ sa sn sc, e = .returned (.tuple #[.slice sa sn sc, .bool (Cn.srch cs f us)]) ∧ Below W.heap.size W w') := fun W g oc us h hzz => by
    have hc : Cl2 W ca cs := hcs.below h.below
    have := ih W ca cc (some ⟨g, 0, none⟩) oc us hc h.row.cls h.tri (by rw [h.len]; exact hok) (by rw [h.len]; exact hl) (by intro e; rw [e] at h; have := h.len; simp at this; exact hne (List.length_eq_zero_iff.1 this.symm)) hzz
    rw [h.len] at this
    exact this
  have HS : Hid (Cn.srch cs (f + 1) vs = match Cn.prop cs (Cn.zs vs + 1) vs with
    | none => false
    | some us => match Cn.fst0 us us.length 1 with
      | none => true
      | some v => Cn.srch cs f (us.set v 1) || Cn.srch cs f (us.set v (-1))) := by
    show _ = _
    rw [Cn.srch]
    cases Cn.prop cs (Cn.zs vs + 1) vs with
    | none => rfl
    | some us => dsimp only; cases Cn.fst0 us us.length 1 <;> rfl
  have HF : Hid (∀ us x, Cn.Tri us → us.length = vs.length → ¬ x = 0 → Cn.forc us cs = (x, true) → x.natAbs < vs.length ∧ us[x.natAbs]?.getD 0 = 0) := fun us x htri hlen hx h => by
    obtain ⟨⟨c, hc, hxc⟩, h2, _⟩ := Cn.forc_yes htri (fun c hc x hx => (hok.inv c hc x hx).1) hx h
    exact ⟨(hok.inv c hc x hxc).2, Cn.hold_zero h2⟩
  obtain ⟨g, oc, w1, hr1, hRw, hge, B1⟩ := copy_rw w 27 a cap vs hv hl hne
  have S1 : SrS w w1 g vs vs.length (Cn.zs vs) := ⟨B1, hge, hRw, rfl, ht, Nat.le_refl _⟩
  clear hv ht hok hRw B1 hge hcs ih hne
  go_enter Try.func32, Try.ntmps32
  go_wp2_with (first | (at_builtin; refine Aside.out ?_))
  delta Aside
  refine wpList_append_eq _ rfl _ _ 27 rfl _ _ _ rfl rfl _ hr1 ?_
  clear hr1
  go_wp2_with fail
  go_loopg [7] (Cn.zs vs + 1) (fun k _ W => ∃ us, Hid (SrS w W g us vs.length (Cn.zs vs)) ∧ Hid (Cn.prop cs k us = Cn.prop cs (Cn.zs vs + 1) vs ∧ Cn.zs us < k))
  case atStart => exact ⟨vs, S1, rfl, by omega⟩
  case round =>
    obtain ⟨us, SU, HK⟩ := hrel
    obtain ⟨k', rfl⟩ : ∃ k', gk = k' + 1 := ⟨gk - 1, by have := HK.out.2; omega⟩
    have FO := H1.out wr g oc us SU.out
    have hfx := HF.out us
    have hpr := HK.out.1
    rw [Cn.prop] at hpr
    obtain ⟨x, b, hfo⟩ : ∃ x b, Cn.forc us cs = (x, b) := ⟨_, _, rfl⟩
    rw [hfo] at FO hpr
    simp only at FO hpr
    clear S1
    cases b with
    | false =>
      have HR : Hid (Cn.srch cs (f + 1) vs = false) := by
        show _ = _
        rw [HS.out, ← hpr]
        simp
      have HB : Hid (Below w.heap.size w wr) := SU.out.below
      clear H1 H2 HF HS hpr hfx hfo HK SU
      go_wp2_with (first | (go_at_call 46; refine FO.mono ?_; rintro e w3 ⟨rfl, rfl⟩))
      refine ⟨rfl, .tuple #[.slice none 0 0, .bool false], by simp [results, Try.results32], ?_⟩
      rw [HR.out]
      exact ⟨_, _, _, rfl, HB.out⟩
    | true =>
      simp only [Bool.true_eq_false, if_false] at hpr
      by_cases hx : x = 0
      · subst hx
        rw [if_pos rfl] at hpr
        have HR : Hid (Cn.srch cs (f + 1) vs = match Cn.fst0 us us.length 1 with
            | none => true
            | some v => Cn.srch cs f (us.set v 1) || Cn.srch cs f (us.set v (-1))) := by
          show _ = _
          rw [HS.out, ← hpr]
        have hul := SU.out.len
        have huz := SU.out.zs
        have hl1 : 1 ≤ us.length ∨ us.length = 0 := by omega
        clear H1 HF HS hpr hfx hfo HK
        go_wp2_with (first | (go_at_call 46; refine FO.mono ?_; rintro e w3 ⟨rfl, rfl⟩))
        clear FO
        go_loopw [9] (fun t7 W => ∃ v fu : Nat, 1 ≤ v ∧ v ≤ vs.length + 1 ∧ t7 = .int .i64 (v : Int) ∧ W = wr ∧ Hid (Cn.fst0 us fu v = Cn.fst0 us us.length 1 ∧ us.length ≤ v + fu)) (fun t7 _ => vs.length + 1 - (intOf t7).toNat)
        case atStart => exact ⟨1, us.length, by omega, by omega, rfl, rfl, rfl, by omega⟩
        case round =>
          obtain ⟨v, fu, hv1, hv2, rfl, rfl, HV⟩ := hrel
          by_cases hlt : v < vs.length
          · have dv : decide ((v : Int) < (vs.length : Int)) = true := decide_eq_true (by omega)
            obtain ⟨fu', rfl⟩ : ∃ fu', fu = fu' + 1 := ⟨fu - 1, by have := HV.out.2; omega⟩
            have hfs := HV.out.1
            rw [Cn.fst0, if_pos (by omega)] at hfs
            have huv : us[v]? = some (us[v]'(by omega)) := List.getElem?_eq_getElem (by omega)
            generalize us[v]'(by omega) = c at huv
            rw [huv] at hfs
            simp only [Option.getD_some] at hfs
            obtain ⟨c1, f1⟩ := SU.out.row.at huv
            by_cases hc : c = 0
            · subst hc
              rw [if_neg (by simp)] at hfs
              have HR2 : Hid (Cn.srch cs (f + 1) vs = (Cn.srch cs f (us.set v 1) || Cn.srch cs f (us.set v (-1)))) := by
                show _ = _
                rw [HR.out, ← hfs]
              have h00 : us[v]?.getD 0 = 0 := by rw [huv]; rfl
              have T1 := SU.out.set hlt h00 true
              have z1 := Cn.zs_set (vs := us) (v := v) (by omega) h00 true
              have z2 := Cn.zs_set (vs := us) (v := v) (by omega) h00 false
              simp only [if_true, Bool.false_eq_true, if_false] at T1 z1 z2
              have S1 := H2.out _ g oc _ (⟨T1.below, T1.ge, T1.row, T1.len, T1.tri, Nat.le_refl _⟩ : SrS w _ g _ vs.length (Cn.zs (us.set v 1))) (by omega)
              have HT : Hid (∀ W', Below (wr.setCell ⟨g, v, none⟩ (.int .i64 1)).heap.size (wr.setCell ⟨g, v, none⟩ (.int .i64 1)) W' → SrS w (W'.setCell ⟨g, v, none⟩ (.int .i64 (-1))) g (us.set v (-1)) vs.length (Cn.zs (us.set v (-1))) ∧ W'.cell? ⟨g, v, none⟩ = some (.int .i64 1) ∧ W'.frozen? ⟨g, v, none⟩ = false) := fun W' hB => by
                have K := T1.keep hB
                obtain ⟨e1, e2⟩ := K.row.at (j := v) (c := 1) (by rw [List.getElem?_set_self (by omega)])
                have r2 := K.row.set v (-1)
                rw [List.set_set] at r2
                have t2 := Cn.set_tri SU.out.tri v false
                simp only [Bool.false_eq_true, if_false] at t2
                exact ⟨⟨K.below.setCell (p := ⟨g, v, none⟩) K.ge _, K.ge, r2, by rw [List.length_set]; exact SU.out.len, t2, Nat.le_refl _⟩, e1, e2⟩
              have HB1 : Hid (Below w.heap.size w (wr.setCell ⟨g, v, none⟩ (.int .i64 1))) := T1.below
              have HH : Hid (_ ∧ _) := And.intro (show Cn.zs (us.set v (-1)) < f by omega) H2.out
              clear H2 HR hfs huv h00 T1 z1 z2 HV SU hul huz hl1 hz
              generalize Cn.srch cs f (us.set v 1) = b1 at *
              go_wp2_with (first | (go_at_call 32; refine S1.mono ?_; rintro e w4 ⟨sa, sn, sc, rfl, B4⟩; refine Aside.out ?_))
              delta Aside
              obtain ⟨T2, c2, f2⟩ := HT.out w4 B4
              cases b1 with
              | true =>
                have HB : Hid (Below w.heap.size w w4) := HB1.out.trans (B4.mono HB1.out.size)
                clear HT T2 c2 f2 HH S1
                apply_assumption
                go_wp2_with fail
                refine ⟨rfl, .tuple #[.slice sa sn sc, .bool true], by simp [results, Try.results32], ?_⟩
                rw [HR2.out]
                exact ⟨_, _, _, rfl, HB.out⟩
              | false =>
                have S2 := HH.out.2 _ g oc _ T2 HH.out.1
                have HB2 : Hid (Below w.heap.size w (w4.setCell ⟨g, v, none⟩ (.int .i64 (-1)))) := T2.below
                clear HT T2 HH S1 B4
                generalize Cn.srch cs f (us.set v (-1)) = b2 at *
                apply_assumption
                go_wp2_with (first | (go_at_call 32; refine S2.mono ?_; rintro e w5 ⟨sa2, sn2, sc2, rfl, B5⟩))
                refine ⟨rfl, .tuple #[.slice sa2 sn2 sc2, .bool b2], by simp [results, Try.results32], ?_⟩
                rw [HR2.out]
                exact ⟨sa2, sn2, sc2, by simp, HB2.out.trans (B5.mono HB2.out.size)⟩
            · have dc : (c != 0) = true := by simpa using hc
              rw [if_pos hc] at hfs
              have HV2 : Hid (Cn.fst0 us fu' (v + 1) = Cn.fst0 us us.length 1 ∧ us.length ≤ v + 1 + fu') := ⟨hfs, by have := HV.out.2; omega⟩
              have wrp : IntKind.i64.wrap ((v : Int) + 1) = (v : Int) + 1 := by rw [IntKind.wrap_i64]; omega
              clear hfs huv HV H2 HR SU hc
              go_wp2_with fail
              exact ⟨⟨v + 1, fu', by omega, by omega, by simp, by trivial, HV2.out⟩, by simp [intOf]; omega⟩
          · have dv : decide ((v : Int) < (vs.length : Int)) = false := decide_eq_false (by omega)
            have HR2 : Hid (Cn.srch cs (f + 1) vs = true) := by
              show _ = _
              rw [HR.out, ← HV.out.1]
              cases fu with
              | zero => rfl
              | succ fu => rw [Cn.fst0, if_neg (by omega)]
            have HB : Hid (Below w.heap.size w wr) := SU.out.below
            clear HV H2 HR SU
            go_wp2_with fail
            refine ⟨rfl, .tuple #[.slice (some ⟨g, 0, none⟩) vs.length oc, .bool true], by simp [results, Try.results32], ?_⟩
            rw [HR2.out]
            exact ⟨_, _, _, rfl, HB.out⟩
      · rw [if_neg hx] at hpr
        obtain ⟨hxl, hx0⟩ := hfx x SU.out.tri SU.out.len hx hfo
        have hux : us[x.natAbs]? = some 0 := by
          have h7 : x.natAbs < us.length := by rw [SU.out.len]; exact hxl
          have := List.getElem?_eq_getElem h7
          rw [this] at hx0 ⊢
          simpa using hx0
        obtain ⟨c1, f1⟩ := SU.out.row.at hux
        have SN := SU.out.set hxl hx0 (decide (0 < x))
        have zN := Cn.zs_set (vs := us) (v := x.natAbs) (by rw [SU.out.len]; exact hxl) hx0 (decide (0 < x))
        have d0 : (x == 0) = false := by simpa using hx
        have HN : Hid (Cn.prop cs k' (us.set x.natAbs (if decide (0 < x) then 1 else -1)) = Cn.prop cs (Cn.zs vs + 1) vs ∧ Cn.zs (us.set x.natAbs (if decide (0 < x) then 1 else -1)) < k') := ⟨hpr, by have := HK.out.2; omega⟩
        clear H1 H2 HF HS hpr hfx hfo HK SU hux hx0 zN
        by_cases hpos : 0 < x
        · obtain ⟨n, rfl⟩ : ∃ n : Nat, x = (n : Int) := ⟨x.toNat, by omega⟩
          have dp : decide (0 < (n : Int)) = true := decide_eq_true hpos
          simp only [dp, if_true, Int.natAbs_natCast] at SN HN c1 f1 hxl
          have dl : decide ((n : Int) < (vs.length : Int)) = true := decide_eq_true (by omega)
          have SN2 : Hid _ := SN
          clear SN
          go_wp2_with (first | (go_at_call 46; refine FO.mono ?_; rintro e w3 ⟨rfl, rfl⟩))
          go_roundg k'
          case measure => omega
          case rel => exact ⟨_, SN2.out, HN.out⟩
        · obtain ⟨n, rfl⟩ : ∃ n : Nat, x = -(n : Int) := ⟨(-x).toNat, by omega⟩
          have dp : decide (0 < -(n : Int)) = false := decide_eq_false hpos
          simp only [dp, Bool.false_eq_true, if_false, Int.natAbs_neg, Int.natAbs_natCast] at SN HN c1 f1 hxl
          have dl : decide ((n : Int) < (vs.length : Int)) = true := decide_eq_true (by omega)
          have wr9 : IntKind.i64.wrap (-(-(n : Int))) = (n : Int) := by rw [IntKind.wrap_i64]; omega
          have SN2 : Hid _ := SN
          clear SN
          go_wp2_with (first | (go_at_call 46; refine FO.mono ?_; rintro e w3 ⟨rfl, rfl⟩))
          go_roundg k'
          case measure => omega
          case rel => exact ⟨_, SN2.out, HN.out⟩

theorem sr_all (cs : List (List Int)) : ∀ f, SrT cs f
  | 0 => fun w ca cc a cap vs _ _ _ _ _ _ h => absurd h (by omega)
  | f + 1 => sr_step cs f (sr_all cs f)

set_option maxRecDepth 100000 in
set_option maxHeartbeats 2000000 in
/-- Good. -/
theorem good6_in (w : World) (ca : Option Addr) (cc : Nat) (cs : List (List Int)) (hcs : Cl2 w ca cs) (n : Nat) (hn : n ≤ 1099511627776) (hok : CsOk cs (n + 1)) :
    Calls Try.prog 16 #[.int .i64 (n : Int), .slice ca cs.length cc] w fun e w' => e = .returned (.bool true) ∧ w = w' := by
  have HI : Hid (CsOk cs (n + 1)) := hok
  have HL := hok.len
  have HC : Hid (Cl2 w ca cs) := hcs
  clear hok hcs
  go_enter Try.func16, Try.ntmps16
  go_wp2_with fail
  go_loopw [5] (fun t3 W => ∃ i : Nat, i ≤ cs.length ∧ t3 = .int .i64 (i : Int) ∧ W = w) (fun t3 _ => cs.length - (intOf t3).toNat)
  case atStart => exact ⟨0, by omega, rfl, rfl⟩
  case round =>
    obtain ⟨i, hi1, rfl, rfl⟩ := hrel
    by_cases hi2 : i < cs.length
    · have di : decide ((i : Int) < (cs.length : Int)) = true := decide_eq_true (by omega)
      obtain ⟨g, off, rfl, hg⟩ := HC.out.resolve_left (by intro e; rw [e] at hi2; simp at hi2)
      obtain ⟨ra, rc, c1, hcl⟩ := hg i _ (List.getElem?_eq_getElem hi2)
      have hin : Hid (∀ x ∈ cs[i], x ≠ 0 ∧ x.natAbs < n + 1) := HI.out.inv _ (List.getElem_mem hi2)
      have hcn := HI.out.each _ (List.getElem_mem hi2)
      have HCL : Hid (ClsAt wr ra cs[i]) := hcl
      clear hg hcl
      generalize cs[i] = c at *
      go_wp2_with fail
      go_loopw [6] (fun t4 W => ∃ k : Nat, k ≤ c.length ∧ t4 = .int .i64 (k : Int) ∧ W = wr) (fun t4 _ => c.length - (intOf t4).toNat)
      case atStart => exact ⟨0, by omega, rfl, rfl⟩
      case round =>
        obtain ⟨k, hk, rfl, rfl⟩ := hrel
        by_cases hk2 : k < c.length
        · have dk : decide ((k : Int) < (c.length : Int)) = true := decide_eq_true (by omega)
          obtain ⟨g2, o2, rfl, hg2⟩ := HCL.out.resolve_left (by intro e; rw [e] at hk2; simp at hk2)
          have c2 := hg2 k _ (List.getElem?_eq_getElem hk2)
          have hx := hin.out _ (List.getElem_mem hk2)
          generalize c[k] = x at *
          have d0 : (x == 0) = false := by simpa using hx.1
          have d1 : decide ((n : Int) < x) = false := decide_eq_false (by omega)
          have d2 : decide (x < -(n : Int)) = false := decide_eq_false (by omega)
          have w9 : IntKind.i64.wrap (-(n : Int)) = -(n : Int) := by rw [IntKind.wrap_i64]; omega
          clear hg2 HCL HC HI hin hx
          go_wp2_with fail
          exact ⟨⟨k + 1, by omega, by simp, by trivial⟩, by simp [intOf]; omega⟩
        · have dk : decide ((k : Int) < (c.length : Int)) = false := decide_eq_false (by omega)
          clear HCL HC HI hin
          go_wp2_with fail
          exact ⟨⟨i + 1, by omega, by simp, by trivial⟩, by simp [intOf]; omega⟩
    · have di : decide ((i : Int) < (cs.length : Int)) = false := decide_eq_false (by omega)
      clear HC HI
      go_wp2_with fail
      go_ret
      exact ⟨rfl, rfl⟩

end Go.Proofs.Ytinphcnknionmab

namespace Go.Proofs.Ytinphcnknionmab
open Go.RowKit

/-- The values that agrees begins with. -/
def valsOf (bs : List Bool) (n : Nat) : List Int := 0 :: (bs.map (fun b => if b then (1 : Int) else -1) ++ List.replicate (n - bs.length) 0)
theorem valsOf_len {bs : List Bool} {n : Nat} (h : bs.length ≤ n) : (valsOf bs n).length = n + 1 := by simp [valsOf]; omega
theorem valsOf_at {bs : List Bool} {n : Nat} (v : Nat) : (valsOf bs n)[v]?.getD 0 = if v = 0 then 0 else match bs[v - 1]? with
    | some b => if b then 1 else -1
    | none => 0 := by
  cases v with
  | zero => simp [valsOf]
  | succ v =>
    unfold valsOf
    rw [List.getElem?_cons_succ, if_neg (by omega)]
    by_cases hv : v < bs.length
    · rw [List.getElem?_append_left (by simpa using hv)]
      simp [hv]
    · rw [List.getElem?_append_right (by simpa using hv)]
      have : bs[v + 1 - 1]? = none := List.getElem?_eq_none (by simpa using hv)
      rw [this, List.getElem?_replicate]
      simp only [List.length_map]
      split <;> rfl
theorem valsOf_tri (bs : List Bool) (n : Nat) : Cn.Tri (valsOf bs n) := fun v => by
  rw [valsOf_at]
  split
  · exact Or.inl rfl
  · split
    · next b _ => cases b <;> simp
    · exact Or.inl rfl

theorem tau_idx : ∀ {ps : List (Int × Int)} {bs : List Bool} {p : Int × Int}, bs.length = ps.length → p ∈ ps → bs[ps.idxOf p]? = some (tau ps bs p)
  | [], _, _, _, h => by cases h
  | q :: ps, [], _, h, _ => by simp at h
  | q :: ps, b :: bs, p, hl, hp => by
    by_cases e : q = p
    · subst e
      simp [tau]
    · have hm : p ∈ ps := by
        rcases List.mem_cons.1 hp with rfl | h
        · exact absurd rfl e
        · exact h
      have hi : (q :: ps).idxOf p = ps.idxOf p + 1 := by
        rw [List.idxOf_cons]
        have : (q == p) = false := by simpa using e
        simp [this]
      rw [hi, List.getElem?_cons_succ, tau, if_neg e]
      exact tau_idx (by simpa using hl) hm

theorem tse_short (an : Int × Int → Nat) {f : Fo} (hw : WfF f) : ∀ st : Sc, (∀ c ∈ st.2, c.length ≤ 3) → ∀ c ∈ (Cn.tse an f st).2.2, c.length ≤ 3 := by
  have hb : ∀ (p q : Int) (st : Sc), (∀ c ∈ st.2, c.length ≤ 3) → ∀ c ∈ (Cn.both p q st).2.2, c.length ≤ 3 := fun p q st h c hc => by
    unfold Cn.both at hc
    rcases List.mem_append.1 hc with hc | hc
    · exact h c hc
    · simp at hc
      rcases hc with rfl | rfl | rfl <;> simp
  induction hw with
  | eq x y => intro st h; simpa [Cn.tse] using h
  | neg f hf ih =>
    intro st h
    have := ih st h
    simpa [Cn.tse] using this
  | two o f g ho hf hg ih1 ih2 =>
    intro st h
    have := ih2 _ (ih1 st h)
    rcases ho with rfl | rfl | rfl
    · rw [Cn.tse] <;> simp
      exact fun c hc => hb _ _ _ this c hc
    · rw [Cn.tse] <;> simp
      exact fun c hc => hb _ _ _ this c hc
    · rw [Cn.tse] <;> simp
      exact fun c hc => hb _ _ _ this c hc

/-- What is known of the clauses. -/
theorem cls_ok {f : Fo} (hw : WfF f) (hsz : szF f ≤ 1048576) {ps : List (Int × Int)} (hps : ps = ats (eqF f)) {R : Int × Sc} (hR : R = Cn.tse (numP ps) f (ps.length, [])) :
    CsOk (R.2.2 ++ [[R.1]]) (R.2.1 + 1) ∧ ps.length ≤ R.2.1 ∧ R.2.1 ≤ (Cn.cnt f).1 ∧ (R.2.2 ++ [[R.1]]).length ≤ 4 * (Cn.cnt f).2 + 2 ∧ (Cn.cnt f).1 ≤ szF f ∧ (Cn.cnt f).2 ≤ (Cn.cnt f).1 := by
  have hm : ∀ p ∈ eqF f, 1 ≤ numP ps p ∧ numP ps p ≤ ps.length := fun p hp => by
    have : p ∈ ps := by rw [hps, mem_ats]; exact hp
    exact ⟨by unfold numP; rw [if_pos this]; omega, numP_le ps p⟩
  obtain ⟨news, T⟩ := Cn.tse_told (numP ps) hw (ps.length, []) hm
  obtain ⟨c1, c2⟩ := Cn.tse_count (numP ps) hw (ps.length, [])
  have ht := Cn.cnt_told hw
  have hc := cnt_le hw
  have hs := tse_short (numP ps) hw (ps.length, []) (by simp)
  have hal := ats_len (eqF f)
  rw [← hps] at hal
  rw [← hR] at T c1 c2 hs
  have hcl : R.2.2 = news := by rw [T.cls]; rfl
  simp only [List.length_nil, Nat.zero_add] at c1 c2
  refine ⟨⟨fun c hc x hx => ?_, by simp; omega, fun c hc => ?_⟩, by omega, by omega, by simp; omega, hc.1, hc.2⟩
  · rcases List.mem_append.1 hc with hc | hc
    · rw [hcl] at hc
      have := T.all c hc x hx
      exact ⟨this.1, by have := this.2; omega⟩
    · simp at hc
      subst hc
      simp at hx
      subst hx
      exact ⟨T.le.1, by have := T.le.2; omega⟩
  · rcases List.mem_append.1 hc with hc | hc
    · have := hs c hc
      omega
    · simp at hc
      subst hc
      simp

theorem agree_plain {f : Fo} (hw : WfF f) (hsz : szF f ≤ 1048576) {ps : List (Int × Int)} (hps : ps = ats (eqF f)) {R : Int × Sc} (hR : R = Cn.tse (numP ps) f (ps.length, [])) {bs : List Bool} (hb : bs.length = ps.length) :
    Cn.srch (R.2.2 ++ [[R.1]]) (Cn.zs (valsOf bs R.2.1) + 1) (valsOf bs R.2.1) = Cn.trF (tau ps bs) f := by
  obtain ⟨hok, hle, _⟩ := cls_ok hw hsz hps hR
  have hl := valsOf_len (bs := bs) (n := R.2.1) (by omega)
  have S := Cn.srch_told (cs := R.2.2 ++ [[R.1]]) (Cn.zs (valsOf bs R.2.1) + 1) (valsOf bs R.2.1) (valsOf_tri bs _) (by rw [hl]; exact hok.inv) (by omega)
  have hm : ∀ p ∈ eqF f, 1 ≤ numP ps p ∧ numP ps p ≤ ps.length := fun p hp => by
    have : p ∈ ps := by rw [hps, mem_ats]; exact hp
    exact ⟨by unfold numP; rw [if_pos this]; omega, numP_le ps p⟩
  have T := Cn.tse_sat (numP ps) hw ps.length hm (fun v => bs[v - 1]?.getD false && decide (v ≠ 0))
  rw [← hR] at T
  have E : Cn.trF (fun p => (fun v => bs[v - 1]?.getD false && decide (v ≠ 0)) (numP ps p)) f = Cn.trF (tau ps bs) f := by
    refine Cn.trF_congr hw (fun p hp => ?_)
    have hpm : p ∈ ps := by rw [hps, mem_ats]; exact hp
    have := tau_idx hb hpm
    simp only [numP, if_pos hpm, Nat.add_sub_cancel, this]
    simp
  rw [E] at T
  rw [Bool.eq_iff_iff, S, ← T]
  constructor
  · rintro ⟨σ, hσ, hs⟩
    refine ⟨fun v => if v = 0 then false else σ v, fun v hv => ?_, fun c hc => ?_⟩
    · by_cases h0 : v = 0
      · subst h0; simp
      · have h1 := hσ v
        rw [valsOf_at, if_neg h0] at h1
        have hlt : v - 1 < bs.length := by omega
        show (if v = 0 then false else σ v) = (bs[v - 1]?.getD false && decide (v ≠ 0))
        rw [List.getElem?_eq_getElem hlt] at h1 ⊢
        simp only [Option.getD_some, if_neg h0]
        cases hbv : bs[v - 1] with
        | true => rw [h1.1 (by simp [hbv])]; simp [h0]
        | false => rw [h1.2 (by simp [hbv])]; simp
    · obtain ⟨z, hz, hz2⟩ := hs c hc
      refine ⟨z, hz, ?_⟩
      have hz0 := (hok.inv c hc z hz).1
      unfold Cn.lit at hz2 ⊢
      have : ¬ z.natAbs = 0 := by omega
      simp only [if_neg this]
      exact hz2
  · rintro ⟨σ, hA, hs⟩
    refine ⟨σ, fun v => ?_, hs⟩
    rw [valsOf_at]
    by_cases h0 : v = 0
    · rw [if_pos h0]
      exact ⟨fun h => by omega, fun h => by omega⟩
    · rw [if_neg h0]
      by_cases hlt : v - 1 < bs.length
      · have h1 : σ v = (bs[v - 1]?.getD false && decide (v ≠ 0)) := hA v (by omega)
        rw [List.getElem?_eq_getElem hlt] at h1 ⊢
        simp only [Option.getD_some, h0, ne_eq, not_false_eq_true, decide_true, Bool.and_true] at h1
        cases hbv : bs[v - 1] with
        | true => rw [hbv] at h1; simp [h1]
        | false => rw [hbv] at h1; simp [h1]
      · rw [List.getElem?_eq_none (by omega)]
        exact ⟨fun h => (by cases h), fun h => (by cases h)⟩

end Go.Proofs.Ytinphcnknionmab
