/- law07: what alive's texts say. Package decide: formulas in memory; wrong. Package decide: what add works on: formulas in a row, and all that no step of a problem changes. Package decide: learnWhole. Package decide: learn, of one pair. Package decide: clausesOf. -/
import Derived.Test.YtlehlgipbhfioaaGreatP38
import Derived.Test.YtlehlgipbhfioaaGreatP49
import Derived.KernelRfl
import Derived.Test.YtlehlgipbhfioaaGreatP34
import Derived.Test.YtlehlgipbhfioaaGreatP47
namespace Go.Proofs.YtlehlgipbhfioaaGreat

theorem pa7a : gParse ⟨#[102, 40, 97, 41, 61, 98]⟩ [] = (f7a, 0, 0, l7.take 3) := by kernel_rfl
theorem pa7b : gParse ⟨#[97, 61, 99, 124, 97, 61, 100]⟩ (l7.take 3) = (f7b, 0, 0, l7.take 5) := by kernel_rfl
theorem pa7c : gParse ⟨#[102, 40, 99, 41, 33, 61, 98]⟩ (l7.take 5) = (f7c, 0, 0, l7) := by kernel_rfl
theorem pa7d : gParse ⟨#[97, 33, 61, 100]⟩ l7 = (f7d, 0, 0, l7) := by kernel_rfl
end Go.Proofs.YtlehlgipbhfioaaGreat

namespace Go.Proofs.YtlehlgipbhfioaaGreat
open Go.RowKit Go.Maps

/-- A formula of a problem in its six cells. -/
def FmOne (W : World) (b off N : Nat) (fm : Fm) : Prop := ∃ (op x y : Int) (ka : Option Addr) (kn kc : Nat) (au cu : Value) (f : Fo),
  (W.cell? ⟨b, off, none⟩ = some (.int .i64 op) ∧ W.cell? ⟨b, off + 1, none⟩ = some (.int .i64 x) ∧ W.cell? ⟨b, off + 2, none⟩ = some (.int .i64 y) ∧ W.cell? ⟨b, off + 3, none⟩ = some (.slice ka kn kc) ∧ W.cell? ⟨b, off + 4, none⟩ = some au ∧ W.cell? ⟨b, off + 5, none⟩ = some cu) ∧
  FIs W (.agg #[.int .i64 op, .int .i64 x, .int .i64 y, .slice ka kn kc]) f ∧ (szF f ≤ 1048576 ∧ RF f) ∧ (∀ e, fm.ev e = evE N e f) ∧ PsAt W au fm.am ∧ ∃ ca cc, cu = .slice ca fm.cs.length cc ∧ CssAt W ca fm.cs
theorem FmOne.below {W W' : World} {b off N : Nat} {fm : Fm} (h : FmOne W b off N fm) (hB : Below W.heap.size W W') : FmOne W' b off N fm := by
  obtain ⟨op, x, y, ka, kn, kc, au, cu, f, ⟨c0, c1, c2, c3, c4, c5⟩, h1, h2, h3, h4, ca, cc, h5, h6⟩ := h
  have hm := Mono.below hB
  exact ⟨op, x, y, ka, kn, kc, au, cu, f, ⟨hm _ _ c0, hm _ _ c1, hm _ _ c2, hm _ _ c3, hm _ _ c4, hm _ _ c5⟩, h1.keep hB, h2, h3, h4.below hB, ca, cc, h5, h6.below hB⟩
/-- The formulas of a problem. -/
def FmsAt (W : World) (N : Nat) (v : Value) (fs : List Fm) : Prop := ∃ a c, v = .slice a fs.length c ∧ ∀ (n : Nat) (fm : Fm), fs[n]? = some fm → ∃ b off, a = some ⟨b, off, none⟩ ∧ FmOne W b (off + n * 6) N fm
theorem FmsAt.below {W W' : World} {N : Nat} {v : Value} {fs : List Fm} (h : FmsAt W N v fs) (hB : Below W.heap.size W W') : FmsAt W' N v fs := by
  obtain ⟨a, c, h1, h2⟩ := h
  refine ⟨a, c, h1, fun n fm hn => ?_⟩
  obtain ⟨b, off, h3, h4⟩ := h2 n fm hn
  exact ⟨b, off, h3, h4.below hB⟩
theorem Fm.get_at {fs : List Fm} {n : Nat} {fm : Fm} (h : fs[n]? = some fm) : Fm.get fs n = fm := by
  unfold Fm.get
  rw [h]
  rfl
theorem FmsAt.am {W : World} {N : Nat} {v : Value} {fs : List Fm} (h : FmsAt W N v fs) : AmAt W v fs.length (fun n => (Fm.get fs n).am) := by
  obtain ⟨a, c, h1, h2⟩ := h
  refine ⟨a, c, h1, fun n hn => ?_⟩
  have e := List.getElem?_eq_getElem hn
  obtain ⟨b, off, h3, op, x, y, ka, kn, kc, au, cu, f, ⟨_, _, _, _, c4, _⟩, _, _, _, h4, _⟩ := h2 n _ e
  refine ⟨b, off, au, h3, c4, ?_⟩
  simp only [Fm.get_at e]
  exact h4

theorem beq_natI (a b : Nat) : ((a : Int) == (b : Int)) = decide (a = b) := by
  by_cases h : a = b
  · subst h; simp
  · rw [decide_eq_false h]
    simp
    omega

set_option maxRecDepth 100000 in
set_option maxHeartbeats 1000000 in
theorem wrong_in (S : Nat → Prop) (w : World) (pb vb kb : Nat) (bk tv fv lv : Value) (P : Pb) (h : Pm S w pb vb kb bk tv fv lv P) (N : Nat) (fs : List Fm) (ha : FmsAt w N fv fs) (vv : Value) (m : Nat) (val : Nat → Bool) (hv : BsAt w vv m val) (cb : Nat) (g : Nat → Nat) (hg : w.rowIs cb 3 N (fun i => .int .i64 (g i : Int))) (cq : Nat → Nat → Bool) (hcq : ∀ i j, i < N → j < N → decide (g i = g j) = cq i j) (xa : Option Addr) (xc : Nat) (ns : List Nat) (hx : NsAt w (.slice xa ns.length xc) ns) (hns : ∀ n ∈ ns, n < fs.length) (hnl : ns.length ≤ 1000000) (hpr : ∀ n, n < fs.length → (Fm.get fs n).am.length ≤ 1000000 ∧ ∀ a ∈ (Fm.get fs n).am, PrOk a ∧ (a.1 < N ∧ a.2 < N) ∧ ∃ z, numV P.vars a = some z ∧ 1 ≤ z ∧ z ≤ m) (hm : m ≤ 1000000) (hN : N ≤ 1000000) :
    Calls Tryz.prog 48 #[.pointer (some ⟨pb, 0, none⟩), vv, .slice (some ⟨cb, 0, none⟩) N N, .slice xa ns.length xc] w fun e w' => ∃ v', e = .returned v' ∧ w'.ownsRow w.heap.size 34 2 v' (wrongN val P.vars cq (fun n => (Fm.get fs n).am) (fun n => (Fm.get fs n).ev cq) [] ns).length (rowP (wrongN val P.vars cq (fun n => (Fm.get fs n).am) (fun n => (Fm.get fs n).ev cq) [] ns)) ∧ Below w.heap.size w w' := by
  obtain ⟨fa, fc, rfl, ha⟩ := ha
  obtain ⟨tb, tq, tc, rfl, hv⟩ := hv
  obtain ⟨am, ham⟩ : ∃ am : Nat → List Pr, am = fun n => (Fm.get fs n).am := ⟨_, rfl⟩
  obtain ⟨ok, hok⟩ : ∃ ok : Nat → Bool, ok = fun n => (Fm.get fs n).ev cq := ⟨_, rfl⟩
  rw [← ham, ← hok]
  have hpr2 : ∀ n, n < fs.length → (am n).length ≤ 1000000 ∧ ∀ a ∈ am n, PrOk a ∧ (a.1 < N ∧ a.2 < N) ∧ ∃ z, numV P.vars a = some z ∧ 1 ≤ z ∧ z ≤ m := by rw [ham]; exact hpr
  have HD : Hid (_ ∧ _ ∧ _ ∧ _ ∧ _ ∧ _ ∧ _ ∧ _) := ⟨h, ha, hv, hx, hns, hpr2, hg, hcq⟩
  have HAO : Hid (_ ∧ _) := And.intro ham hok
  obtain ⟨n, hn⟩ : ∃ n, ns.length = n := ⟨_, rfl⟩
  have HN : Hid _ := hn
  rw [hn] at hnl ⊢
  have HI0 : Hid (TS w w (.slice none 0 0) (wrongN val P.vars cq am ok [] (ns.take 0)) ∧ (wrongN val P.vars cq am ok [] (ns.take 0)).length ≤ 0 * 1000000) := ⟨⟨⟨by simp [wrongN, rowP], Or.inl ⟨rfl, rfl⟩⟩, Below.refl _ _⟩, by simp [wrongN]⟩
  clear h ha hv hx hns hpr hn hg hcq hpr2 ham hok
  go_enter Tryz.func48, Tryz.ntmps48
  go_wp2_with fail
  go_loopw [9, 17] (fun t9 t17 W => ∃ i : Nat, i ≤ n ∧ t17 = .int .i64 (i : Int) ∧ Hid (TS w W t9 (wrongN val P.vars cq am ok [] (ns.take i)) ∧ (wrongN val P.vars cq am ok [] (ns.take i)).length ≤ i * 1000000)) (fun _ t17 _ => n - (intOf t17).toNat)
  case atStart => exact ⟨0, Nat.zero_le _, rfl, HI0⟩
  case round =>
    obtain ⟨i, hi, rfl, HJ⟩ := hrel
    clear HI0
    by_cases hlt : i < n
    · have di : decide ((i : Int) < (n : Int)) = true := decide_eq_true (by omega)
      have hwi : IntKind.i64.wrap ((i : Int) + 1) = (i : Int) + 1 := wrap_nat1 (by omega)
      have hil : i < ns.length := by rw [HN.out]; exact hlt
      obtain ⟨xb, xo, xc', ex, qx⟩ := HD.out.2.2.2.1.get (List.getElem?_eq_getElem hil)
      cases ex
      have hxk := HD.out.2.2.2.2.1 _ (List.getElem_mem hil)
      have HS : Hid (wrongN val P.vars cq am ok [] (ns.take (i + 1)) = if ok ns[i] then wrongN val P.vars cq am ok [] (ns.take i) else wrngL val P.vars cq (wrongN val P.vars cq am ok [] (ns.take i)) (am ns[i])) := by
        show _ = _
        rw [List.take_add_one, List.getElem?_eq_getElem hil, Option.toList_some]
        unfold wrongN
        rw [List.foldl_append]
        rfl
      generalize ns[i] = x at *
      obtain ⟨fb, fo, hfa, op, fx, fy, ka, kn, kc, au, cu, f, ⟨q0, q1, q2, q3, q4, q5⟩, hfi, ⟨hsz, hrf⟩, hev, hps, ca, cc, rfl, _⟩ := HD.out.2.1 x _ (List.getElem?_eq_getElem hxk)
      subst hfa
      have hget : (Fm.get fs x) = fs[x] := Fm.get_at (List.getElem?_eq_getElem hxk)
      have hamx : am x = fs[x].am := by rw [HAO.out.1]; simp only [hget]
      have hokx : ok x = evE N cq f := by rw [HAO.out.2]; simp only [hget]; exact hev cq
      rw [← hamx] at hps
      obtain ⟨ua, uc, rfl, hps⟩ := hps
      have T0 := HJ.out.1
      have qx := T0.get qx
      have q0 := T0.get q0
      have q1 := T0.get q1
      have q2 := T0.get q2
      have q3 := T0.get q3
      have q4 := T0.get q4
      have q5 := T0.get q5
      have c2 := T0.get (HD.out.1.cells.cell (i := 2) (by omega))
      simp only [pmC] at c2
      have hcl : (cb < w.heap.size) := HD.out.2.2.2.2.2.2.1.lt
      have hBx : Below wr.heap.size wr (wr.alloc (.cells #[.int .i64 op, .int .i64 fx, .int .i64 fy, .slice ka kn kc, .slice ua (am x).length uc, .slice ca fs[x].cs.length cc] 172)) := (Below.refl _ _).alloc (Nat.le_refl _) _
      have T1 := T0.below hBx
      have EV := evalF_in (wr.alloc (.cells #[.int .i64 op, .int .i64 fx, .int .i64 fy, .slice ka kn kc, .slice ua (am x).length uc, .slice ca fs[x].cs.length cc] 172)) (.agg #[.int .i64 op, .int .i64 fx, .int .i64 fy, .slice ka kn kc]) f (hfi.keep T1.2) (some ⟨cb, 0, none⟩) N N ((List.range N).map fun t => (g t : Int)) (by simp) (by
        by_cases hN0 : N = 0
        · left; rw [hN0]; rfl
        · refine Or.inr ⟨cb, 0, rfl, fun j z hj => ?_⟩
          have hjN : j < N := by have := (List.getElem?_eq_some_iff.1 hj).1; simpa using this
          rw [List.getElem?_map, List.getElem?_range hjN] at hj
          cases hj
          rw [Nat.zero_add]
          exact T1.get (HD.out.2.2.2.2.2.2.1.cell (i := j) hjN)) (by omega) (by omega) hrf
      rw [evF_E (n := N) (by simp) (e := cq) (fun a b ha hb => by
        have e1 : ((List.range N).map fun t => (g t : Int))[a]?.getD 0 = (g a : Int) := by simp [ha]
        have e2 : ((List.range N).map fun t => (g t : Int))[b]?.getD 0 = (g b : Int) := by simp [hb]
        rw [← HD.out.2.2.2.2.2.2.2 a b ha hb, e1, e2, beq_natI]), ← hokx] at EV
      generalize fs[x].cs.length = cl at *
      have hpx := HD.out.2.2.2.2.2.1 x hxk
      have HU : Hid (_ ∧ _ ∧ _) := And.intro hps (And.intro hpx T1)
      have HD3 : Hid (_ ∧ _ ∧ _ ∧ _) := And.intro HD.out.1 (And.intro HD.out.2.2.1 (And.intro HD.out.2.2.2.2.2.2.1 HD.out.2.2.2.2.2.2.2))
      have hacl := HJ.out.2
      generalize wrongN val P.vars cq am ok [] (ns.take i) = acc at *
      generalize am x = al at *
      clear hps hpx T0 T1 hfi hsz hrf hev hamx hokx hBx hget HJ
      cases hok : ok x
      · rw [hok] at EV
        go_wp2_with (first | (go_at_call 91; refine EV.mono ?_; rintro e w4 ⟨rfl, B4⟩; refine Aside.out ?_))
        delta Aside
        have cbx : w4.cell? ⟨wr.heap.size, 4, none⟩ = some (.slice ua al.length uc) := (B4.cell (by simp)).trans (by simp)
        have HJ0 : Hid (TS w w4 u9 (wrngL val P.vars cq acc (al.take 0)) ∧ (wrngL val P.vars cq acc (al.take 0)).length ≤ i * 1000000 + 0) := by
          rw [List.take_zero]
          exact ⟨HU.out.2.2.below B4, Nat.le_trans hacl (Nat.le_add_right _ _)⟩
        have HU2 : Hid (_ ∧ _) := And.intro HU.out.1 HU.out.2.1
        have HS2 : Hid (wrongN val P.vars cq am ok [] (ns.take (i + 1)) = wrngL val P.vars cq acc al) := by
          have := HS.out
          rw [hok] at this
          exact this
        obtain ⟨y, hy⟩ : ∃ y, al.length = y := ⟨_, rfl⟩
        have HY : Hid _ := hy
        have hyl : y ≤ 1000000 := by rw [← hy]; exact HU.out.2.1.1
        simp only [hy] at cbx ⊢
        clear hy EV B4 HU HS hok HD
        apply_assumption
        go_wp2_with fail
        clear cbx qx q0 q1 q2 q3 q4 q5 c2
        go_loopw [9, 35] (fun t9 t35 W => ∃ j : Nat, j ≤ y ∧ t35 = .int .i64 (j : Int) ∧ Hid (TS w W t9 (wrngL val P.vars cq acc (al.take j)) ∧ (wrngL val P.vars cq acc (al.take j)).length ≤ i * 1000000 + j)) (fun _ t35 _ => y - (intOf t35).toNat)
        case atStart => exact ⟨0, Nat.zero_le _, rfl, HJ0⟩
        case round =>
          obtain ⟨j, hj, rfl, HK⟩ := hrel
          clear HJ0
          by_cases hjt : j < y
          · have dj : decide ((j : Int) < (y : Int)) = true := decide_eq_true (by omega)
            have hwj : IntKind.i64.wrap ((j : Int) + 1) = (j : Int) + 1 := wrap_nat1 (by omega)
            have hjl : j < al.length := by rw [HY.out]; exact hjt
            have hge := List.getElem?_eq_getElem hjl
            have hmem := List.getElem_mem hjl
            have HS3 : Hid (wrngL val P.vars cq acc (al.take (j + 1)) = wrng1 val P.vars cq (wrngL val P.vars cq acc (al.take j)) al[j]) := by
              show _ = _
              rw [List.take_add_one, hge, Option.toList_some]
              unfold wrngL
              rw [List.foldl_append]
              rfl
            obtain ⟨ub, uo, eu, pu⟩ : ∃ b off, ua = some ⟨b, off, none⟩ ∧ ∀ (j : Nat) (p : Pr), al[j]? = some p → w.cell? ⟨b, off + j * 2, none⟩ = some (.int .i64 (p.1 : Int)) ∧ w.cell? ⟨b, off + j * 2 + 1, none⟩ = some (.int .i64 (p.2 : Int)) := by
              rcases HU2.out.1 with e | e
              · rw [e] at hjl; exact absurd hjl (Nat.not_lt_zero _)
              · exact e
            subst eu
            have q1 := HK.out.1.get (pu j _ hge).1
            have q2 := HK.out.1.get (pu j _ hge).2
            obtain ⟨hok, ⟨hx1, hx2⟩, z, hz, hz1, hzm⟩ := HU2.out.2.2 _ hmem
            clear hge hmem pu
            generalize al[j] = x at *
            obtain ⟨x1, x2⟩ := x
            generalize wrngL val P.vars cq acc (al.take j) = acc2 at *
            have hBx : Below wr.heap.size wr (wr.alloc (.cells #[.int .i64 (x1 : Int), .int .i64 (x2 : Int)] 34)) := (Below.refl _ _).alloc (Nat.le_refl _) _
            have HK1 := HK.out.1.below hBx
            have c3 := HK1.get (HD3.out.1.cells.cell (i := 3) (by omega))
            simp only [pmC] at c3
            have hvr : VrIs (wr.alloc (.cells #[.int .i64 (x1 : Int), .int .i64 (x2 : Int)] 34)) vb P.vars := by
              obtain ⟨es, ck, he⟩ := HD3.out.1.vars.lt
              exact HD3.out.1.vars.keep (HK1.2.block vb (Array.getElem?_eq_some_iff.1 he).1)
            have LK : ∀ m, _ := fun m => (show VrIs ((wr.alloc (.cells #[.int .i64 (x1 : Int), .int .i64 (x2 : Int)] 34)).drewN m) vb P.vars from hvr.keep rfl).look1 hok
            rw [hz] at LK
            simp only [Option.getD_some] at LK
            obtain ⟨z', rfl⟩ : ∃ z', z = z' + 1 := ⟨z - 1, by omega⟩
            have hb := HK1.get (HD3.out.2.1 z' (by omega))
            have hzl : z' < m := by omega
            simp only at hx1 hx2
            have g1 := HK1.get (HD3.out.2.2.1.cell (i := x1) hx1)
            have g2 := HK1.get (HD3.out.2.2.1.cell (i := x2) hx2)
            have dg : ((g x1 : Int) == (g x2 : Int)) = cq x1 x2 := by rw [beq_natI]; exact HD3.out.2.2.2 x1 x2 hx1 hx2
            have ADD : Hid _ := fun mm : Nat => HK.out.1.add x1 x2 (by have := HK.out.2; omega) (W1 := (wr.alloc (.cells #[.int .i64 (x1 : Int), .int .i64 (x2 : Int)] 34)).drewN mm) ⟨hBx.os, hBx.tape, hBx.output, hBx.size, hBx.block⟩ (wr.heap.size + 1) (by simp)
            have HT : Hid (∀ b c, val z' = b → cq x1 x2 = c → wrng1 val P.vars cq acc2 (x1, x2) = if c && !b then addP acc2 [(x1, x2)] else acc2) := fun b c hb hc => by
              rw [wrng1, hz]
              simp only [Option.getD_some, Nat.add_sub_cancel, hb, hc]
              cases b <;> cases c <;> rfl
            have hwz : IntKind.i64.wrap ((z' : Int) + 1 - 1) = (z' : Int) := by rw [IntKind.wrap_i64]; omega
            have HK2 : Hid _ := HK1
            have hl2 := HK.out.2
            clear HK HK1 hvr hBx hz hok hz1 hzm
            have HDr : Hid (∀ m, TS w ((wr.alloc (.cells #[.int .i64 (x1 : Int), .int .i64 (x2 : Int)] 34)).drewN m) u9 acc2) := fun m => TS.below HK2.out ⟨rfl, rfl, rfl, Nat.le_refl _, fun _ _ => rfl⟩
            clear HK2
            generalize g x1 = y1 at *
            generalize g x2 = y2 at *
            cases hcv : cq x1 x2
            · rw [hcv] at dg
              have HE : Hid (wrngL val P.vars cq acc (al.take (j + 1)) = acc2) := by
                show _ = _
                rw [HS3.out, HT.out _ _ rfl hcv]
                rfl
              clear ADD hcv HT HS3
              go_wp2_with fail
              go_quiet (fail)
              go_wp2_with fail
              refine ⟨⟨j + 1, hjt, by simp, ?_⟩, by simp [intOf]; omega⟩
              rw [HE.out]
              exact ⟨HDr.out _, by omega⟩
            · rw [hcv] at dg
              cases hvz : val z'
              · rw [hvz] at hb
                have HE : Hid (wrngL val P.vars cq acc (al.take (j + 1)) = addP acc2 [(x1, x2)]) := by
                  show _ = _
                  rw [HS3.out, HT.out _ _ hvz hcv]
                  rfl
                have HL : Hid ((addP acc2 [(x1, x2)]).length ≤ i * 1000000 + (j + 1)) := by
                  have := addP_len acc2 [(x1, x2)]
                  simp only [List.length_singleton] at this
                  show _ ≤ _
                  omega
                clear hvz HT HS3 hcv
                go_wp2_with fail
                go_quiet (fail)
                have A1 := ADD.out nq
                clear ADD
                go_wp2_with (first | (go_at_call 89; refine A1.mono ?_; rintro e w3 ⟨v3, rfl, T3⟩))
                refine ⟨⟨j + 1, hjt, by simp, ?_⟩, by simp [intOf]; omega⟩
                rw [HE.out]
                exact ⟨T3, HL.out⟩
              · rw [hvz] at hb
                have HE : Hid (wrngL val P.vars cq acc (al.take (j + 1)) = acc2) := by
                  show _ = _
                  rw [HS3.out, HT.out _ _ hvz hcv]
                  rfl
                clear ADD hcv HT HS3 hvz
                go_wp2_with fail
                go_quiet (fail)
                go_wp2_with fail
                refine ⟨⟨j + 1, hjt, by simp, ?_⟩, by simp [intOf]; omega⟩
                rw [HE.out]
                exact ⟨HDr.out _, by omega⟩
          · have dj : decide ((j : Int) < (y : Int)) = false := decide_eq_false (by omega)
            obtain rfl : j = y := by omega
            have HF : Hid (TS w wr u9 (wrongN val P.vars cq am ok [] (ns.take (i + 1))) ∧ (wrongN val P.vars cq am ok [] (ns.take (i + 1))).length ≤ (i + 1) * 1000000) := by
              rw [HS2.out]
              have := HK.out
              rw [List.take_of_length_le (by rw [HY.out]; exact Nat.le_refl _)] at this
              refine ⟨this.1, ?_⟩
              have := this.2
              omega
            clear HK HS2 HU2 HD3
            go_wp2_with fail
            exact ⟨⟨i + 1, hlt, by simp, HF⟩, by simp [intOf]; omega⟩
      · rw [hok] at EV
        have HF : Hid (wrongN val P.vars cq am ok [] (ns.take (i + 1)) = acc) := by
          have := HS.out
          rw [hok] at this
          exact this
        go_wp2_with (first | (go_at_call 91; refine EV.mono ?_; rintro e w4 ⟨rfl, B4⟩))
        refine ⟨⟨i + 1, hlt, by simp, ?_⟩, by simp [intOf]; omega⟩
        rw [HF.out]
        exact ⟨HU.out.2.2.below B4, Nat.le_trans hacl (Nat.mul_le_mul_right _ (Nat.le_succ _))⟩
    · have di : decide ((i : Int) < (n : Int)) = false := decide_eq_false (by omega)
      obtain rfl : i = n := by omega
      have HF : Hid (TS w wr u9 (wrongN val P.vars cq am ok [] ns)) := by
        have := HJ.out.1
        rw [List.take_of_length_le (by rw [HN.out]; exact Nat.le_refl _)] at this
        exact this
      clear HJ HD
      go_wp2_with fail
      go_ret
      exact ⟨_, rfl, HF.out.1, HF.out.2⟩
end Go.Proofs.YtlehlgipbhfioaaGreat

namespace Go.Proofs.YtlehlgipbhfioaaGreat
open Go.RowKit Go.Maps

theorem Kept.far {D D1 : Nat → Prop} {w w1 W : World} (h : Kept D w w1) (k : Kept D1 w1 W) (hD : ∀ j, D1 j → D j ∨ w.heap.size ≤ j) : Kept D w W :=
  ⟨k.os.trans h.os, k.tape.trans h.tape, k.output.trans h.output, Nat.le_trans h.size k.size, fun j hj hn => (k.block j (Nat.lt_of_lt_of_le hj h.size) (fun e => (hD j e).elim hn (fun e => absurd hj (by omega)))).trans (h.block j hj hn)⟩
/-- What holds whatever is done to the blocks of D. -/
def Stab (D : Nat → Prop) (W : World) (Φ : World → Prop) : Prop := ∀ W', Kept D W W' → Φ W'
theorem Stab.step {D D1 : Nat → Prop} {w w1 : World} {Φ : World → Prop} (h : Stab D w Φ) (K : Kept D w w1) (hD : ∀ j, D1 j → D j ∨ w.heap.size ≤ j) : Stab D1 w1 Φ := fun W k => h W (K.far k hD)
/-- A formula's six cells. -/
structure Sx where
  op : Int
  x : Int
  y : Int
  ka : Option Addr
  kn : Nat
  kc : Nat
  au : Value
  cu : Value
def sxL (g : Sx) : List Value := [.int .i64 g.op, .int .i64 g.x, .int .i64 g.y, .slice g.ka g.kn g.kc, g.au, g.cu]
theorem sxL_at : ∀ (gs : List Sx) (i j : Nat), j < 6 → (gs.flatMap sxL)[i * 6 + j]? = (gs[i]?).bind fun g => (sxL g)[j]?
  | [], i, j, _ => by simp
  | g :: gs, 0, j, hj => by
    rw [List.flatMap_cons, List.getElem?_append_left (by simp [sxL]; omega)]
    simp
  | g :: gs, i + 1, j, hj => by
    rw [List.flatMap_cons, List.getElem?_append_right (by simp [sxL]; omega), show (i + 1) * 6 + j - (sxL g).length = i * 6 + j by simp [sxL]; omega, sxL_at gs i j hj]
    rfl
/-- The parts of a formula. -/
def SxOk (W : World) (N : Nat) (g : Sx) (fm : Fm) : Prop := ∃ f : Fo, FIs W (.agg #[.int .i64 g.op, .int .i64 g.x, .int .i64 g.y, .slice g.ka g.kn g.kc]) f ∧ (szF f ≤ 1048576 ∧ RF f) ∧ (∀ e, fm.ev e = evE N e f) ∧ PsAt W g.au fm.am ∧ ∃ ca cc, g.cu = .slice ca fm.cs.length cc ∧ CssAt W ca fm.cs
def Dq (pb vb kb : Nat) (lv fv : Value) (k : Nat) : Prop := PD pb vb kb lv k ∨ fv.ownBlock = some k
/-- A problem with its formulas. -/
structure Np (Φ : World → Prop) (B : Nat) (S : Nat → Prop) (W : World) (pb vb kb : Nat) (bk tv fv lv : Value) (P : Pb) (N : Nat) (fs : List Fm) (gs : List Sx) : Prop where
  pm : Pm S W pb vb kb bk tv fv lv P
  low : ∀ k, Dq pb vb kb lv fv k → B ≤ k
  row : W.ownsRow B 172 6 fv gs.length (gs.flatMap sxL)
  len : gs.length = fs.length
  parts : Stab (Dq pb vb kb lv fv) W fun W' => (∀ (n : Nat) (fm : Fm) (g : Sx), fs[n]? = some fm → gs[n]? = some g → SxOk W' N g fm) ∧ Φ W'
theorem Pm.pdlt {S : Nat → Prop} {W : World} {pb vb kb : Nat} {bk tv fv lv : Value} {P : Pb} (h : Pm S W pb vb kb bk tv fv lv P) {k : Nat} (hk : PD pb vb kb lv k) : k < W.heap.size := by
  obtain ⟨es, ck, e1⟩ := h.vars.lt
  obtain ⟨es', ck', e2⟩ := h.known.lt
  obtain ⟨rs, r1, _⟩ := h.rows
  rcases hk with rfl | rfl | rfl | e
  · exact h.cells.lt
  · exact (Array.getElem?_eq_some_iff.1 e1).1
  · exact (Array.getElem?_eq_some_iff.1 e2).1
  · exact (ownsRow_lt r1 e).2
theorem Pm.pdne {S : Nat → Prop} {W : World} {pb vb kb : Nat} {bk tv fv lv : Value} {P : Pb} (h : Pm S W pb vb kb bk tv fv lv P) {base size n : Nat} {t : TypeId} {v : Value} {xs : List Value} (hr : W.ownsRow base t size v n xs) (h1 : 118 ≠ t) (h2 : t ≠ 39) {k : Nat} (hv : v.ownBlock = some k) : ¬ PD pb vb kb lv k := by
  obtain ⟨es, ck, e1⟩ := h.vars.lt
  obtain ⟨es', ck', e2⟩ := h.known.lt
  obtain ⟨rs, r1, _⟩ := h.rows
  rintro (rfl | rfl | rfl | e)
  · exact rowIs_type h.cells h1 hr hv
  · exact down_map hr e1 hv
  · exact down_map hr e2 hv
  · exact ownsRow_neC hr r1 h2 hv e
theorem Rw.pdne {S : Nat → Prop} {W : World} {pb vb kb : Nat} {bk tv fv lv : Value} {P : Pb} (h : Pm S W pb vb kb bk tv fv lv P) {g : Nat} {c : List Int} (hr : Rw W g c) : ¬ PD pb vb kb lv g := by
  obtain ⟨es, ck, e1⟩ := h.vars.lt
  obtain ⟨es', ck', e2⟩ := h.known.lt
  obtain ⟨rs, r1, _⟩ := h.rows
  rintro (e | e | e | e)
  · exact hr.nerow h.cells (by decide) e
  · exact hr.nemap e1 e
  · exact hr.nemap e2 e
  · exact hr.neown r1 (by decide) e
theorem RowN.rw {W : World} {g : Nat} {xs : List Nat} (h : RowN W g xs) : Rw W g (xs.map fun n : Nat => (n : Int)) := by
  refine ⟨xs.length, fun i => (xs.map i64)[i]?.getD undef, by simp, ⟨_, h, by simp, fun i hi => ?_⟩, fun j c hj => ?_⟩
  · simp only
    rw [List.getElem?_toArray, List.getElem?_eq_getElem (by simpa using hi)]
    rfl
  · simp only
    rw [List.getElem?_map] at hj ⊢
    cases hx : xs[j]? with
    | none => rw [hx] at hj; cases hj
    | some x =>
      rw [hx] at hj
      cases hj
      rfl
theorem Np.fms {Φ : World → Prop} {B : Nat} {S : Nat → Prop} {W : World} {pb vb kb : Nat} {bk tv fv lv : Value} {P : Pb} {N : Nat} {fs : List Fm} {gs : List Sx} (h : Np Φ B S W pb vb kb bk tv fv lv P N fs gs) (W' : World) (K : Kept (PD pb vb kb lv) W W') : FmsAt W' N fv fs := by
  have hr : W'.ownsRow B 172 6 fv gs.length (gs.flatMap sxL) := ownsRow_blk h.row (fun b hb => K.block b (ownsRow_lt h.row hb).2 (h.pm.pdne h.row (by decide) (by decide) hb))
  obtain ⟨a, c, rfl⟩ := ownsRow_form hr
  refine ⟨a, c, by rw [h.len], fun n fm hn => ?_⟩
  have hng : n < gs.length := by rw [h.len]; exact (List.getElem?_eq_some_iff.1 hn).1
  have hg := List.getElem?_eq_getElem hng
  obtain ⟨f, q1, q2, q3, q4, q5⟩ := (h.parts W' (K.mono fun k _ e => Or.inl e)).1 n fm _ hn hg
  rcases id hr.2 with ⟨e, h0⟩ | ⟨b, cap, cur, e, _⟩
  · rw [h0] at hng; cases hng
  · cases e
    refine ⟨b, 0, rfl, gs[n].op, gs[n].x, gs[n].y, gs[n].ka, gs[n].kn, gs[n].kc, gs[n].au, gs[n].cu, f, ?_, q1, q2, q3, q4, q5⟩
    have hc : ∀ j, j < 6 → W'.cell? ⟨b, 0 + n * 6 + j, none⟩ = (sxL gs[n])[j]? := fun j hj => by
      rw [Nat.zero_add, hr.cellAt (n * 6 + j) (by omega), sxL_at gs n j hj, hg]
      rfl
    exact ⟨hc 0 (by omega), hc 1 (by omega), hc 2 (by omega), hc 3 (by omega), hc 4 (by omega), hc 5 (by omega)⟩
/-- add in its loops: the problem, the names, the atoms so far. -/
structure AdI (S : Nat → Prop) (w : World) (S' : Nat → Prop) (W : World) (pb vb kb : Nat) (bk tv fv lv lv' : Value) (P : Pb) (nb : Nat) (nm : List Nat) (v : Value) (am : List Pr) : Prop where
  pm : Pm S' W pb vb kb bk tv fv lv' P
  new : ∀ k, S' k → S k ∨ w.heap.size ≤ k
  kept : Kept (fun k => PD pb vb kb lv k ∨ k = nb) w W
  at_ : lv'.ownBlock = lv.ownBlock ∨ ∀ k, lv'.ownBlock = some k → w.heap.size ≤ k
  nms : RowN W nb nm
  ats : W.ownsRow w.heap.size 34 2 v am.length (rowP am)
theorem AdI.below {S : Nat → Prop} {w : World} {S' : Nat → Prop} {W W' : World} {pb vb kb : Nat} {bk tv fv lv lv' : Value} {P : Pb} {nb : Nat} {nm : List Nat} {v : Value} {am : List Pr} (h : AdI S w S' W pb vb kb bk tv fv lv lv' P nb nm v am) (hB : Below W.heap.size W W') : AdI S w S' W' pb vb kb bk tv fv lv lv' P nb nm v am :=
  ⟨h.pm.below hB, h.new, h.kept.under hB, h.at_, (hB.block nb (Array.getElem?_eq_some_iff.1 h.nms).1).trans h.nms, ownsRow_below h.ats hB⟩
theorem AdI.pd {S : Nat → Prop} {w : World} {S' : Nat → Prop} {W : World} {pb vb kb : Nat} {bk tv fv lv lv' : Value} {P : Pb} {nb : Nat} {nm : List Nat} {v : Value} {am : List Pr} (h : AdI S w S' W pb vb kb bk tv fv lv lv' P nb nm v am) (k : Nat) (hk : PD pb vb kb lv' k) : PD pb vb kb lv k ∨ w.heap.size ≤ k := by
  rcases hk with e | e | e | e
  · exact Or.inl (Or.inl e)
  · exact Or.inl (Or.inr (Or.inl e))
  · exact Or.inl (Or.inr (Or.inr (Or.inl e)))
  · rcases h.at_ with e1 | e1
    · exact Or.inl (Or.inr (Or.inr (Or.inr (e1 ▸ e))))
    · exact Or.inr (e1 k e)
/-- A step of the problem. -/
theorem AdI.step {S : Nat → Prop} {w : World} {S' S2 : Nat → Prop} {W W2 : World} {pb vb kb : Nat} {bk tv fv lv lv' lv2 : Value} {P P2 : Pb} {nb : Nat} {nm : List Nat} {v : Value} {am : List Pr} (h : AdI S w S' W pb vb kb bk tv fv lv lv' P nb nm v am) (x : PmX S' W S2 W2 pb vb kb bk tv fv lv' lv2 P2) : AdI S w S2 W2 pb vb kb bk tv fv lv lv2 P2 nb nm v am := by
  have z := h.kept.size
  refine ⟨x.is, fun k hk => (x.new k hk).elim (h.new k) (fun e => Or.inr (Nat.le_trans z e)), h.kept.far x.kept (fun k hk => (h.pd k hk).imp Or.inl id), ?_, (x.kept.block nb (Array.getElem?_eq_some_iff.1 h.nms).1 (Rw.pdne h.pm h.nms.rw)).trans h.nms, ownsRow_blk h.ats (fun b hb => x.kept.block b (ownsRow_lt h.ats hb).2 (h.pm.pdne h.ats (by decide) (by decide) hb))⟩
  rcases x.at_ with e | e
  · rw [e]; exact h.at_
  · exact Or.inr (fun k hk => Nat.le_trans z (e k hk))
/-- A name more. -/
theorem AdI.name {S : Nat → Prop} {w : World} {S' : Nat → Prop} {W : World} {pb vb kb : Nat} {bk tv fv lv lv' : Value} {P : Pb} {nb : Nat} {nm : List Nat} {v : Value} {am : List Pr} (h : AdI S w S' W pb vb kb bk tv fv lv lv' P nb nm v am) (hn : nb < w.heap.size) (hS : ∀ k, S k → k ≠ nb) (j x : Nat) : AdI S w S' (W.setCell ⟨nb, j, none⟩ (.int .i64 (x : Int))) pb vb kb bk tv fv lv lv' P nb (nm.set j x) v am := by
  have K : Kept1 nb W (W.setCell ⟨nb, j, none⟩ (.int .i64 (x : Int))) := Kept1.set (Kept.refl _ _) j _
  have hr := h.nms.rw
  have hne := Rw.pdne h.pm hr
  have hbk : ∀ k, PD pb vb kb lv' k → (W.setCell ⟨nb, j, none⟩ (.int .i64 (x : Int))).heap[k]? = W.heap[k]? := fun k hk => K.block k (h.pm.pdlt hk) (fun e => hne (e ▸ hk))
  refine ⟨h.pm.keep K.size (hbk _ (Or.inl rfl)) (hbk _ (Or.inr (Or.inl rfl))) (hbk _ (Or.inr (Or.inr (Or.inl rfl)))) (fun b hb => hbk b (Or.inr (Or.inr (Or.inr hb)))) (fun g c hg hc => K.block g hc.lt (fun e => ?_)), h.new, h.kept.far K (fun k hk => Or.inl (Or.inr hk)), h.at_, h.nms.set j x, ownsRow_blk h.ats (fun b hb => K.block b (ownsRow_lt h.ats hb).2 (fun e => ?_))⟩
  · rcases h.new g hg with e1 | e1
    · exact hS g e1 e
    · omega
  · exact hr.neown h.ats (by decide) (e ▸ hb)
/-- An atom more. -/
theorem AdI.push {S : Nat → Prop} {w : World} {S' : Nat → Prop} {W W1 w8 : World} {pb vb kb : Nat} {bk tv fv lv lv' : Value} {P : Pb} {nb : Nat} {nm : List Nat} {v v8 : Value} {am am8 : List Pr} (h : AdI S w S' W pb vb kb bk tv fv lv lv' P nb nm v am) (hB : Below W.heap.size W W1) (hown : w8.ownsRow w.heap.size 34 2 v8 am8.length (rowP am8)) (hgrow : W1.grownBy w8 v.ownBlock) : AdI S w S' w8 pb vb kb bk tv fv lv lv' P nb nm v8 am8 := by
  have h1 := h.below hB
  have K : Kept (fun k => v.ownBlock = some k) W1 w8 := Kept.grown (Kept.refl _ W1) hgrow (fun k e => e)
  have hr := h1.nms.rw
  have hbk : ∀ k, PD pb vb kb lv' k → w8.heap[k]? = W1.heap[k]? := fun k hk => K.block k (h1.pm.pdlt hk) (fun e => h1.pm.pdne h1.ats (by decide) (by decide) e hk)
  exact ⟨h1.pm.keep K.size (hbk _ (Or.inl rfl)) (hbk _ (Or.inr (Or.inl rfl))) (hbk _ (Or.inr (Or.inr (Or.inl rfl)))) (fun b hb => hbk b (Or.inr (Or.inr (Or.inr hb)))) (fun g c hg hc => K.block g hc.lt (fun e => hc.neown h1.ats (by decide) e)), h1.new, h1.kept.far K (fun k hk => Or.inr (ownsRow_lt h1.ats hk).1), h1.at_, (K.block nb (Array.getElem?_eq_some_iff.1 h1.nms).1 (fun e => hr.neown h1.ats (by decide) e)).trans h1.nms, hown⟩
end Go.Proofs.YtlehlgipbhfioaaGreat

namespace Go.Proofs.YtlehlgipbhfioaaGreat
open Go.RowKit Go.Maps

set_option maxHeartbeats 400000 in
/-- variable, of a pair that has one. -/
theorem dvar_had (w : World) (pb vb : Nat) (vs : List (Pr × Nat)) (c3 : w.cell? ⟨pb, 3, none⟩ = some (.map (some vb))) (hv : VrIs w vb vs) (a : Pr) (ha : PrOk a) (x : Nat) (hx : numV vs a = some x) :
    Calls Tryz.prog 80 #[.pointer (some ⟨pb, 0, none⟩), .agg #[.int .i64 (a.1 : Int), .int .i64 (a.2 : Int)]] w fun e w' => e = .returned (.int .i64 (x : Int)) ∧ Below w.heap.size w w' := by
  have hB : Hid (∀ m, Below w.heap.size w ((w.alloc (.cells #[.int .i64 (a.1 : Int), .int .i64 (a.2 : Int)] 34)).drewN m)) := fun m => ((Below.refl w.heap.size w).alloc (Nat.le_refl _) _).trans ⟨rfl, rfl, rfl, Nat.le_refl _, fun _ _ => rfl⟩
  have A1 := made_row w #[.int .i64 (a.1 : Int), .int .i64 (a.2 : Int)] 34
  have y1 := A1.cell (i := 0) (by simp)
  have y2 := A1.cell (i := 1) (by simp)
  have c3' : (w.alloc (.cells #[.int .i64 (a.1 : Int), .int .i64 (a.2 : Int)] 34)).cell? ⟨pb, 3, none⟩ = some (.map (some vb)) := ((hB.out 0).cell (World.block_lt_of_cell? w _ c3)).trans c3
  have LK : ∀ m, _ := fun m => (show VrIs ((w.alloc (.cells #[.int .i64 (a.1 : Int), .int .i64 (a.2 : Int)] 34)).drewN m) vb vs from hv.keep (by
    obtain ⟨es, ck, he⟩ := hv.lt
    exact (hB.out m).block vb (Array.getElem?_eq_some_iff.1 he).1)).look ha
  rw [hx] at LK
  simp only [Option.getD_some, Option.isSome_some] at LK
  clear A1 hv
  go_enter Tryz.func80, Tryz.ntmps80
  go_wp2_with fail
  go_quiet (fail)
  go_wp2_with fail
  go_ret
  exact ⟨rfl, hB.out _⟩
theorem Kept0.bel {w w' : World} (h : Kept0 w w') : Below w.heap.size w w' := ⟨h.os, h.tape, h.output, h.size, fun k hk => h.block k hk (fun e => e)⟩
theorem PsAt.prw {W : World} {a : Option Addr} {c : Nat} {l : List Pr} (h : PsAt W (.slice a l.length c) l) : Prw W a (l.map prI) := by
  intro k x hx
  rw [List.getElem?_map] at hx
  cases hk : l[k]? with
  | none => rw [hk] at hx; cases hx
  | some q =>
    rw [hk] at hx
    cases hx
    obtain ⟨a', c', e, h2⟩ := h
    cases e
    rcases h2 with e | ⟨b, off, rfl, h2⟩
    · rw [e] at hk; simp at hk
    · exact ⟨b, off, rfl, World.block_lt_of_cell? W _ (h2 k q hk).1, (h2 k q hk).1, (h2 k q hk).2⟩
theorem fm_congr {α β : Type} (f g : α → Option β) : ∀ l : List α, (∀ x ∈ l, f x = g x) → l.filterMap f = l.filterMap g
  | [], _ => rfl
  | a :: l, h => by rw [List.filterMap_cons, List.filterMap_cons, h a (by simp), fm_congr f g l (fun x hx => h x (by simp [hx]))]
theorem prs_all {N : Nat} {l : List Pr} (h : ∀ q ∈ l, q.1 < N ∧ q.2 < N) : Wm.prs N (l.map prI) (List.range (l.map prI).length) = l := by
  have hok : ∀ q ∈ l, Wm.okP N (prI q) = some q := fun q hq => by
    have h1 : (inB N ((q.1 : Nat) : Int) && inB N ((q.2 : Nat) : Int)) = true := by
      simp [inB]
      exact h q hq
    unfold Wm.okP prI
    rw [if_pos h1]
    simp
  unfold Wm.prs
  refine List.ext_getElem? fun i => ?_
  have key : ∀ (l : List Pr), (∀ q ∈ l, Wm.okP N (prI q) = some q) → (List.range (l.map prI).length).filterMap (fun n => ((l.map prI)[n]?).bind (Wm.okP N)) = l := by
    intro l
    refine snocInd (P := fun l => (∀ q ∈ l, Wm.okP N (prI q) = some q) → (List.range (l.map prI).length).filterMap (fun n => ((l.map prI)[n]?).bind (Wm.okP N)) = l) (fun _ => rfl) (fun l q ih hq => ?_) l
    have ih := ih (fun q hq' => hq q (by simp [hq']))
    rw [List.length_map, List.length_append, List.length_singleton, List.range_succ, List.filterMap_append]
    rw [List.length_map] at ih
    have e1 : (List.range l.length).filterMap (fun n => (((l ++ [q]).map prI)[n]?).bind (Wm.okP N)) = (List.range l.length).filterMap (fun n => ((l.map prI)[n]?).bind (Wm.okP N)) := by
      refine fm_congr _ _ _ fun n hn => ?_
      rw [List.map_append, List.getElem?_append_left (by simpa using hn)]
    rw [e1, ih]
    congr 1
    simp [hq q (by simp)]
  rw [key l hok]

/-- learnWhole in its loop: the literals so far, and the numbers that Why has answered. -/
structure LwI (w W : World) (lits : List Int) (v : Value) (ns : List Nat) (nv : Value) : Prop where
  row : W.ownsRow w.heap.size 3 1 v lits.length (lits.map fun x => Value.int .i64 x)
  nums : W.ownsRow w.heap.size 3 1 nv ns.length (natC ns)
  sep : ∀ b, v.ownBlock = some b → nv.ownBlock ≠ some b
  bel : Below w.heap.size w W
theorem LwI.below {w W W' : World} {lits : List Int} {v : Value} {ns : List Nat} {nv : Value} (h : LwI w W lits v ns nv) (hB : Below W.heap.size W W') : LwI w W' lits v ns nv := ⟨ownsRow_below h.row hB, ownsRow_below h.nums hB, h.sep, h.bel.trans (hB.mono h.bel.size)⟩
def litW (vs : List (Pr × Nat)) (told : List Pr) (n : Nat) : Int := -(((numV vs (told[n]?.getD (0, 0))).getD 0 : Nat) : Int)

set_option maxRecDepth 100000 in
set_option maxHeartbeats 1000000 in
theorem learnWhole_in (S : Nat → Prop) (w : World) (pb vb kb : Nat) (tv fv lv : Value) (P : Pb) (base p : Nat) (ev : Value) (nb fb : Nat) (l : List Tm) (h : Pm S w pb vb kb (.pointer (some ⟨p, 0, none⟩)) tv fv lv P) (hB : Bk w base p ev nb fb l) (hb : Cc.Bd l) (hl : l.length ≤ 150) (da : Option Addr) (dc : Nat) (told : List Pr) (hD : PsAt w (.slice da told.length dc) told) (htl : told.length ≤ 1000)
    (hti : ∀ q ∈ told, q.1 < l.length ∧ q.2 < l.length) (htv : ∀ q ∈ told, ∃ x, numV P.vars q = some x ∧ x ≤ 100000) (a : Pr) (hai : a.1 < l.length ∧ a.2 < l.length) (V : Nat) (hav : numV P.vars a = some V) (hcg : Cc.Cg l told a.1 a.2) (hPl : P.lemmas.length ≤ 1000000000) :
    Calls Tryz.prog 95 #[.pointer (some ⟨pb, 0, none⟩), .slice da told.length dc, .agg #[.int .i64 (a.1 : Int), .int .i64 (a.2 : Int)]] w fun e w' => e = .returned (.tuple #[]) ∧ ∃ ns S' lv', Fits l (told.map prI) (a.1 : Int) (a.2 : Int) ns ∧ PmX S w S' w' pb vb kb (.pointer (some ⟨p, 0, none⟩)) tv fv lv lv' (P.whole a (ns.map fun n => told[n]?.getD (0, 0))) := by
  have hB0 : Below w.heap.size w (w.alloc (.cells #[.int .i64 (a.1 : Int), .int .i64 (a.2 : Int)] 34)) := (Below.refl _ _).alloc (Nat.le_refl _) _
  have c0 : (w.alloc (.cells #[.int .i64 (a.1 : Int), .int .i64 (a.2 : Int)] 34)).cell? ⟨pb, 0, none⟩ = some (.pointer (some ⟨p, 0, none⟩)) := (h.below hB0).cells.cell (i := 0) (by omega)
  have hB1 : Below w.heap.size w (w.alloc (.cells #[.int .i64 (a.1 : Int), .int .i64 (a.2 : Int)] 34)).drew := hB0.trans ⟨rfl, rfl, rfl, Nat.le_refl _, fun _ _ => rfl⟩
  have HB1 : Hid _ := hB1
  have WY := why_in (w.alloc (.cells #[.int .i64 (a.1 : Int), .int .i64 (a.2 : Int)] 34)).drew base p ev nb fb l (hB.below hB.low hB1) hb hl da dc (told.map prI) (hD.below hB1).prw (by rw [List.length_map]; omega) (a.1 : Int) (a.2 : Int)
  rw [List.length_map] at WY
  have hyes : cgB l (Wm.prs l.length (told.map prI) (List.range (told.map prI).length)) (a.1 : Int) (a.2 : Int) = true := by
    rw [prs_all hti]
    unfold cgB
    simp [inB, hai, hcg]
  have y1 : (w.alloc (.cells #[.int .i64 (a.1 : Int), .int .i64 (a.2 : Int)] 34)).cell? ⟨w.heap.size, 0, none⟩ = some (.int .i64 (a.1 : Int)) := by simp
  have y2 : (w.alloc (.cells #[.int .i64 (a.1 : Int), .int .i64 (a.2 : Int)] 34)).cell? ⟨w.heap.size, 1, none⟩ = some (.int .i64 (a.2 : Int)) := by simp
  have HY : Hid _ := hyes
  have HP : Hid (_ ∧ _ ∧ _ ∧ _ ∧ _ ∧ _) := And.intro h (And.intro hD (And.intro hti (And.intro htv (And.intro hav hai))))
  clear h hB hD hti htv hai hcg hyes hav
  obtain ⟨tn, htn⟩ : ∃ t, told.length = t := ⟨_, rfl⟩
  have HTN : Hid _ := htn
  rw [htn] at WY htl ⊢
  clear htn
  have WY2 : Calls Tryz.prog 143 #[.pointer (some ⟨p, 0, none⟩), .slice da tn dc, .int .i64 (a.1 : Int), .int .i64 (a.2 : Int)] (w.alloc (.cells #[.int .i64 (a.1 : Int), .int .i64 (a.2 : Int)] 34)).drew fun e w' => ∃ (ns : List Nat) (na : Option Addr) (nc : Nat), e = .returned (.tuple #[.slice na ns.length nc, .bool true]) ∧ Hid (Fits l (told.map prI) (a.1 : Int) (a.2 : Int) ns ∧ ns.length ≤ tn ∧ w'.ownsRow w.heap.size 3 1 (.slice na ns.length nc) ns.length (natC ns) ∧ Below w.heap.size w w' ∧ w'.cell? ⟨w.heap.size, 0, none⟩ = some (.int .i64 (a.1 : Int)) ∧ w'.cell? ⟨w.heap.size, 1, none⟩ = some (.int .i64 (a.2 : Int))) := by
    refine WY.mono ?_
    rintro e w2 ⟨K2, ⟨hno, _⟩ | ⟨_, ns, v, rfl, hrow, hfit, hnl⟩⟩
    · exact absurd (hno.symm.trans HY.out) (by decide)
    · obtain ⟨na, nc, rfl⟩ := ownsRow_form hrow
      rw [List.length_map, HTN.out] at hnl
      exact ⟨ns, na, nc, rfl, hfit, hnl, row_low hrow HB1.out.size, HB1.out.trans (K2.bel.mono HB1.out.size), (K2.bel.cell (by simp)).trans y1, (K2.bel.cell (by simp)).trans y2⟩
  clear WY
  go_enter Tryz.func95, Tryz.ntmps95
  go_wp2_with fail
  go_cut [6, 7] from 11 to 24 (fun t6 t7 wx => ∃ (ns : List Nat) (na : Option Addr) (nc : Nat), t6 = .slice na ns.length nc ∧ Hid (Fits l (told.map prI) (a.1 : Int) (a.2 : Int) ns ∧ ns.length ≤ tn ∧ wx.ownsRow w.heap.size 3 1 (.slice na ns.length nc) ns.length (natC ns) ∧ Below w.heap.size w wx ∧ wx.cell? ⟨w.heap.size, 0, none⟩ = some (.int .i64 (a.1 : Int)) ∧ wx.cell? ⟨w.heap.size, 1, none⟩ = some (.int .i64 (a.2 : Int))))
  case first =>
    go_region_law (first | (go_simp; go_at_call 143; refine WY2.mono ?_; rintro e w2 ⟨ns, na, nc, rfl, H2⟩))
    all_goals
      try simp only [Act.put, List.getElem_toArray, List.getElem_cons_succ, List.getElem_cons_zero, List.setIfInBounds_toArray, List.set_cons_succ, List.set_cons_zero]
      go_wp2_with fail
      go_meet
      case rel => exact ⟨ns, na, nc, rfl, H2⟩
  case rest =>
    obtain ⟨ns, na, nc, rfl, H2⟩ := hcut
    clear WY2 y1 y2 c0
    have hget : ∀ {a : Addr} {u : Value}, w.cell? a = some u → wc.cell? a = some u := fun hc => (H2.out.2.2.2.1.cell (World.block_lt_of_cell? w _ hc)).trans hc
    have hPm := HP.out.1.below H2.out.2.2.2.1
    have z1 := H2.out.2.2.2.2.1
    have z2 := H2.out.2.2.2.2.2
    have VA := dvar_had wc pb vb P.vars (hPm.cells.cell (i := 3) (by omega)) hPm.vars a ⟨by have := HP.out.2.2.2.2.2.1; omega, by have := HP.out.2.2.2.2.2.2; omega⟩ V HP.out.2.2.2.2.1
    apply_assumption
    go_wp2_with (first | (go_at_call 80; refine VA.mono ?_; rintro e w3 ⟨rfl, B3⟩; refine Aside.out ?_))
    delta Aside
    have HI0 : Hid (LwI w (w3.alloc (.cells #[.int .i64 (V : Int)] 3)) ((V : Int) :: (ns.take 0).map (litW P.vars told)) (.slice (some ⟨w3.heap.size, 0, none⟩) 1 1) ns (.slice na ns.length nc)) := by
      have B4 : Below w3.heap.size w3 (w3.alloc (.cells #[.int .i64 (V : Int)] 3)) := (Below.refl _ _).alloc (Nat.le_refl _) _
      have hbw : Below w.heap.size w w3 := H2.out.2.2.2.1.trans (B3.mono H2.out.2.2.2.1.size)
      refine ⟨⟨rfl, Or.inr ⟨w3.heap.size, 1, #[.int .i64 (V : Int)], rfl, hbw.size, heap_alloc_new _ _, Nat.le_refl _, by unfold maxLen; omega, rfl, rfl⟩⟩, ownsRow_below (ownsRow_below H2.out.2.2.1 B3) B4, fun b hb e => ?_, hbw.trans (B4.mono hbw.size)⟩
      have h1 := (ownsRow_lt (ownsRow_below H2.out.2.2.1 B3) e).2
      have h2 : w3.heap.size = b := by simpa [Value.ownBlock] using hb
      omega
    have HFN : Hid (_ ∧ _) := And.intro H2.out.1 H2.out.2.1
    obtain ⟨nn, hnn⟩ : ∃ n, ns.length = n := ⟨_, rfl⟩
    have HNN : Hid _ := hnn
    have hnn6 : nn ≤ 1000 := by rw [← hnn]; exact Nat.le_trans HFN.out.2 htl
    rw [hnn] at HI0 ⊢
    clear H2 VA B3 hPm z1 z2 hnn hget
    apply_assumption
    go_wp2_with fail
    generalize w3.alloc (.cells #[.int .i64 (V : Int)] 3) = w4 at *
    obtain ⟨lb, hlb⟩ : ∃ r, w3.heap.size = r := ⟨_, rfl⟩
    rw [hlb] at HI0
    simp only [hlb]
    clear hlb
    obtain ⟨i0, hi0, hz0, hz1, hz2⟩ := info_parts infoIntq
    go_loopw [8, 30] (fun t8 t30 W => ∃ i : Nat, i ≤ nn ∧ t30 = .int .i64 (i : Int) ∧ Hid (LwI w W ((V : Int) :: (ns.take i).map (litW P.vars told)) t8 ns (.slice na nn nc))) (fun _ t30 _ => nn - (intOf t30).toNat)
    case atStart => exact ⟨0, Nat.zero_le _, rfl, HI0⟩
    case round =>
      obtain ⟨i, hi, rfl, HJ⟩ := hrel
      clear HI0
      obtain ⟨va, vc, hva⟩ := ownsRow_form HJ.out.row
      subst hva
      by_cases hlt : i < nn
      · have di : decide ((i : Int) < (nn : Int)) = true := decide_eq_true (by omega)
        have hwi : IntKind.i64.wrap ((i : Int) + 1) = (i : Int) + 1 := wrap_nat1 (by omega)
        have hil : i < ns.length := by rw [HNN.out]; exact hlt
        have hll : ((V : Int) :: (ns.take i).map (litW P.vars told)).length = i + 1 := by simp; omega
        have hsuc : (V : Int) :: (ns.take (i + 1)).map (litW P.vars told) = ((V : Int) :: (ns.take i).map (litW P.vars told)) ++ [litW P.vars told ns[i]] := by
          rw [List.take_add_one, List.getElem?_eq_getElem hil, Option.toList_some, List.map_append]
          rfl
        obtain ⟨nb2, rfl, cn⟩ : ∃ nb2, na = some ⟨nb2, 0, none⟩ ∧ wr.cell? ⟨nb2, i, none⟩ = some (.int .i64 (ns[i] : Int)) := by
          have hr := HJ.out.nums
          rcases hr.2 with ⟨e, h0⟩ | ⟨g', cap', cur, e, _⟩
          · rw [h0] at hil; cases hil
          · cases e
            refine ⟨g', rfl, ?_⟩
            have := hr
            rw [this.cellAt i (by omega)]
            unfold natC
            rw [List.getElem?_map, List.getElem?_eq_getElem hil]
            rfl
        have hnt : ns[i] < told.length := by
          have := HFN.out.1.lt ns[i] (List.getElem_mem hil)
          simpa using this
        generalize ns[i] = n at *
        have htn := List.getElem?_eq_getElem hnt
        obtain ⟨x, hx, hx6⟩ := HP.out.2.2.2.1 _ (List.getElem_mem hnt)
        have hin := HP.out.2.2.1 _ (List.getElem_mem hnt)
        obtain ⟨db, dof, eda, hcd⟩ : ∃ b off, da = some ⟨b, off, none⟩ ∧ ∀ (j : Nat) (p : Pr), told[j]? = some p → w.cell? ⟨b, off + j * 2, none⟩ = some (.int .i64 (p.1 : Int)) ∧ w.cell? ⟨b, off + j * 2 + 1, none⟩ = some (.int .i64 (p.2 : Int)) := by
          obtain ⟨a', c', e, h2⟩ := HP.out.2.1
          cases e
          rcases h2 with h2 | h2
          · rw [h2] at hnt; cases hnt
          · exact h2
        subst eda
        have hlit : litW P.vars told n = -(x : Int) := by
          unfold litW
          rw [htn, Option.getD_some, hx]
          rfl
        have d1 := (HJ.out.bel.cell (World.block_lt_of_cell? w _ (hcd n _ htn).1)).trans (hcd n _ htn).1
        have d2 := (HJ.out.bel.cell (World.block_lt_of_cell? w _ (hcd n _ htn).2)).trans (hcd n _ htn).2
        generalize told[n] = q at *
        have hPm := HP.out.1.below HJ.out.bel
        have VA := dvar_had wr pb vb P.vars (hPm.cells.cell (i := 3) (by omega)) hPm.vars q ⟨by omega, by omega⟩ x hx
        have hneg : IntKind.i64.wrap (-(x : Int)) = -(x : Int) := by rw [IntKind.wrap_i64]; omega
        have hntn : n < tn := by rw [← HTN.out]; exact hnt
        have HR : Hid (∀ w5, Below wr.heap.size wr w5 → LwI w w5 ((V : Int) :: (ns.take i).map (litW P.vars told)) (.slice va ((V : Int) :: (ns.take i).map (litW P.vars told)).length vc) ns (.slice (some ⟨nb2, 0, none⟩) nn nc)) := fun w5 h5 => HJ.out.below h5
        rw [hlit] at hsuc
        have HSU : Hid _ := hsuc
        rw [hll] at HR ⊢
        clear HJ hsuc hcd hx hPm hlit hnt htn
        go_wp2_with (first | (go_at_call 80; refine VA.mono ?_; rintro e w5 ⟨rfl, B5⟩; refine Aside.out ?_))
        delta Aside
        have HL5 : Hid _ := HR.out w5 B5
        have r5 := HL5.out.row
        rw [hll] at r5
        have hbs := HL5.out.bel.size
        clear VA HR cn d1 d2
        apply_assumption
        go_wp2_with (first | (at_builtin; refine Aside.out ?_))
        delta Aside
        refine wpList_append_own_at _ rfl _ _ 39 rfl w.heap.size 3 i0 _ 1 8 Tryz.underlying39 hi0 hz0 hz1 hz2 rfl (by decide) _ _ _ rfl (r5.alloc _) ⟨_, 0, none⟩ 1 1 [.int .i64 (-(x : Int))] rfl rfl (cell_oneV w5 _ _) (by simp [Value.oneCell']) (by unfold maxLen; omega) (by omega) (by simp; omega) ?_
        intro v8 w8 hown8 hgrow8 _ hat8
        have HF : Hid (LwI w w8 ((V : Int) :: (ns.take (i + 1)).map (litW P.vars told)) v8 ns (.slice (some ⟨nb2, 0, none⟩) nn nc)) := by
          have K8 : Kept (fun k => (Value.slice va (i + 1) vc).ownBlock = some k) w5 w8 := Kept.grown ((Kept.refl _ w5).alloc _) hgrow8 (fun k e => e)
          have L5 := HL5.out
          rw [HSU.out]
          refine ⟨?_, ownsRow_block L5.nums (fun b hb => K8.block b (ownsRow_lt L5.nums hb).2 (fun e => L5.sep b e hb)), fun b hb e => ?_, L5.bel.trans (K8.below hbs (fun q hq => (ownsRow_lt r5 hq).1))⟩
          · rw [List.length_append, List.length_singleton, hll, List.map_append]
            exact hown8
          · rcases hat8 with e8 | e8
            · rw [e8] at hb
              exact L5.sep b hb e
            · rw [e8] at hb
              have h1 := (ownsRow_lt L5.nums e).2
              simp at hb
              omega
        clear hown8 hgrow8 hat8 HL5 r5 HSU
        go_wp2_with fail
        exact ⟨⟨i + 1, hlt, by simp, HF⟩, by simp [intOf]; omega⟩
      · have di : decide ((i : Int) < (nn : Int)) = false := decide_eq_false (by omega)
        obtain rfl : i = nn := by omega
        have hta : ns.take i = ns := List.take_of_length_le (by rw [HNN.out]; exact Nat.le_refl _)
        rw [hta] at HJ ⊢
        obtain ⟨gb, gc, hgv, hRw⟩ := Rw.of_own (row_low HJ.out.row (Nat.zero_le _)) (by simp)
        have X0 := (PmX.start HP.out.1).below HJ.out.bel
        have SAY := dsay_in S wr pb vb kb _ tv fv lv P X0.is hPl gb gc _ hRw
        have hgb : w.heap.size ≤ gb := (ownsRow_lt HJ.out.row (b := gb) (by rw [hgv]; rfl)).1
        have hXw := X0.wider (S2 := fun k => S k ∨ k = gb) (fun _ => Or.inl) (fun k hk => hk.elim Or.inl (fun e => by rw [e]; exact Or.inr hgb)) (fun k hk => hk.elim (fun e => X0.is.lt k e) (fun e => by rw [e]; exact hRw.lt))
        have HF : Hid ({ P with lemmas := P.lemmas ++ [(V : Int) :: ns.map (litW P.vars told)] } = P.whole a (ns.map fun n => told[n]?.getD (0, 0))) := by
          show _ = _
          unfold Pb.whole
          rw [Pb.vari_had (show P.num a = some V from HP.out.2.2.2.2.1)]
          obtain ⟨m1, m2⟩ := names_had (ns.map fun n => told[n]?.getD (0, 0)) P (fun q hq => by
            obtain ⟨n, hn, rfl⟩ := List.mem_map.1 hq
            have hnt : n < told.length := by
              have := HFN.out.1.lt n hn
              simpa using this
            obtain ⟨x, hx, _⟩ := HP.out.2.2.2.1 _ (List.getElem_mem hnt)
            rw [List.getElem?_eq_getElem hnt, Option.getD_some, show P.num told[n] = some x from hx]
            simp)
          simp only
          rw [m1, m2, List.map_map, List.map_map]
          rfl
        have HXw : Hid _ := hXw
        rw [hgv]
        clear HJ X0 hXw hRw hgv hgb
        generalize ((V : Int) :: ns.map (litW P.vars told)).length = gl at *
        go_wp2_with (first | (go_at_call 122; refine SAY.mono ?_; rintro e w9 ⟨rfl, lv9, X9, X9k, X9a⟩))
        refine ⟨rfl, .tuple #[], by simp [results, Tryz.results95], rfl, ns, fun k => S k ∨ k = gb, lv9, HFN.out.1, ?_⟩
        rw [← HF.out]
        exact HXw.out.trans ⟨X9, fun _ => Or.inl, X9k, X9a⟩
end Go.Proofs.YtlehlgipbhfioaaGreat

namespace Go.Proofs.YtlehlgipbhfioaaGreat
open Go.RowKit Go.Maps

theorem rowS_pmx {W W' : World} {base n : Nat} {v : Value} {xs : List Value} (h : W.ownsRow base 206 10 v n xs) {pb vb kb : Nat} {bk tv fv lv lv' : Value} {P P' : Pb} {S S' : Nat → Prop} (hm : Pm S W pb vb kb bk tv fv lv P) (hx : PmX S W S' W' pb vb kb bk tv fv lv lv' P') : W'.ownsRow base 206 10 v n xs := by
  obtain ⟨es, ck, e1⟩ := hm.vars.lt
  obtain ⟨es', ck', e2⟩ := hm.known.lt
  obtain ⟨rs, r1, _⟩ := hm.rows
  refine ownsRow_blk h (fun b hb => hx.kept.block b (ownsRow_lt h hb).2 ?_)
  rintro (e | e | e | e)
  · exact rowIs_type hm.cells (by decide) h (e ▸ hb)
  · exact down_map h e1 (e ▸ hb)
  · exact down_map h e2 (e ▸ hb)
  · exact ownsRow_ne2 h r1 (by decide) hb e
theorem VrS.prem : ∀ (r : List Pr) (P : Pb), VrS P → VrS (Pb.prem r P).2
  | [], _, h => h
  | a :: r, P, h => by
    rw [Pb.prem]
    split
    · exact VrS.prem r P h
    · exact VrS.prem r _ (h.vari a).1
theorem VrS.step {P : Pb} (h : VrS P) (st : Stq) : VrS (P.step st) := by
  unfold Pb.step
  split
  · exact h
  · have h0 : VrS { P with known := P.known ++ [(st.1, pad4 st.2)] } := h
    exact VrS.prem (pad4 st.2) _ (h0.vari st.1).1
theorem VrS.steps : ∀ (S : List Stq) (P : Pb), VrS P → VrS (S.foldl Pb.step P)
  | [], _, h => h
  | st :: S, _, h => VrS.steps S _ (h.step st)
/-- A proof in memory, as steps wants it. -/
structure PrM (W : World) (qb : Nat) (tv dv : Value) (n : Nat) (L : List (List Nat)) : Prop where
  x1 : W.cell? ⟨qb, 1, none⟩ = some tv
  x2 : W.cell? ⟨qb, 2, none⟩ = some dv
  x3 : ∃ lv, W.cell? ⟨qb, 3, none⟩ = some lv ∧ NssAt W lv L
  len : L.length = n
  few : ∀ r ∈ L, r.length ≤ 1048576
theorem PrM.of {W : World} {B qb sp nb kb n : Nat} {tv dv jv : Value} {g : Uf.G} {t : List Uf.Rec} {L : List (List Nat)} {lv : Nat → Value} (h : LkM W B qb sp nb kb tv dv jv n g t L lv) (hs : Rsh L t) (hn : n ≤ 1000) : PrM W qb tv dv n L := by
  have c1 := h.cells.cell (i := 1) (by omega)
  have c2 := h.cells.cell (i := 2) (by omega)
  have c3 := h.cells.cell (i := 3) (by omega)
  have c3' : W.cell? ⟨qb, 3, none⟩ = some (.slice (some ⟨kb, 0, none⟩) n n) := c3
  refine ⟨c1, c2, ⟨_, c3', ⟨some ⟨kb, 0, none⟩, n, by rw [h.len], ?_⟩⟩, h.len, fun r hr => ?_⟩
  · cases hL : L with
    | nil => exact Or.inl rfl
    | cons a r =>
      rw [← hL]
      refine Or.inr ⟨kb, 0, rfl, fun j r hj => ?_⟩
      have hjn : j < n := by rw [← h.len]; exact (List.getElem?_eq_some_iff.1 hj).1
      refine ⟨lv j, by rw [Nat.zero_add]; exact h.outer.cell (i := j) hjn, ?_⟩
      have := h.rows j hjn
      rw [hj, Option.getD_some] at this
      exact NsAt.of_rowI this
  · have h1 := hs r hr
    have h2 := h.sets.ok.num
    omega
theorem PrM.below {W W' : World} {qb n : Nat} {tv dv : Value} {L : List (List Nat)} (h : PrM W qb tv dv n L) (hB : Below W.heap.size W W') : PrM W' qb tv dv n L := by
  have hm := Mono.below hB
  obtain ⟨lv, l1, l2⟩ := h.x3
  exact ⟨hm _ _ h.x1, hm _ _ h.x2, ⟨lv, hm _ _ l1, l2.mono hm⟩, h.len, h.few⟩

set_option maxRecDepth 100000 in
set_option maxHeartbeats 1000000 in
theorem learn_in (S : Nat → Prop) (w : World) (pb vb kb : Nat) (fv lv : Value) (P : Pb) (base p : Nat) (ev : Value) (nb fb : Nat) (l : List Tm) (ta : Option Addr) (tc : Nat) (h : Pm S w pb vb kb (.pointer (some ⟨p, 0, none⟩)) (.slice ta l.length tc) fv lv P) (hB : Bk w base p ev nb fb l) (hb : Cc.Bd l) (hl : l.length ≤ 150) (hT : TsAt w (.slice ta l.length tc) l)
    (da : Option Addr) (dc : Nat) (told : List Pr) (hD : PsAt w (.slice da told.length dc) told) (htl : told.length ≤ 1000) (hti : ∀ q ∈ told, q.1 ≤ q.2 ∧ q.2 < l.length) (htv : ∀ q ∈ told, ∃ x, numV P.vars q = some x ∧ x ≤ 100000) (a : Pr) (hai : a.1 ≤ a.2 ∧ a.2 < l.length) (V : Nat) (hav : numV P.vars a = some V) (hcg : Cc.Cg l told a.1 a.2)
    (pa : Option Addr) (pc : Nat) (hP : PsAt w (.slice pa 1 pc) [a]) (hPl : P.lemmas.length ≤ 100000) (hPc : P.count ≤ 2000) (hPv : P.vars.length ≤ 2000) (hPk : P.known.length ≤ 100000) (hvs : VrS P) :
    Calls Tryz.prog 49 #[.pointer (some ⟨pb, 0, none⟩), .slice da told.length dc, .slice pa 1 pc] w fun e w' => e = .returned (.tuple #[]) ∧ ∃ F Q S' lv', proofN l told = some F ∧ LrnR l told F [a] P Q ∧ PmX S w S' w' pb vb kb (.pointer (some ⟨p, 0, none⟩)) (.slice ta l.length tc) fv lv lv' Q := by
  have hBn : Bnk l := ⟨fun i t ht => hb.four t (List.mem_of_getElem? ht), fun i t ht => hb.args i t ht, fun i j t u ht hu => hb.one t (List.mem_of_getElem? ht) u (List.mem_of_getElem? hu)⟩
  obtain ⟨F, E, p1, p2, p3⟩ := proof_ok hBn hti
  obtain ⟨f1, f2⟩ := p2.facts hBn
  have hai1 : a.1 < l.length := by omega
  have hgc : Conn E a.1 a.2 := p3 _ _ hcg
  obtain ⟨SF, e1, _⟩ := stepsN_ok p2.lnk p2.grew (argp := argN l) (told := told) (fun p q hq => by rw [p2.len]; exact (argN_in hBn p).1 q hq) f1 hgc (by rw [p2.len]; exact hai1) (by rw [p2.len]; exact hai.2)
  obtain ⟨n1, n2, n3, n4⟩ := stepsN_had p2.lnk (argp := argN l) (told := told) (fun p q hq => by rw [p2.len]; exact ((argN_in hBn p).1 q hq).2) (fun p => (argN_in hBn p).2) (fun p q hq => ((argN_in hBn p).1 q hq).1) (fun x y hxy hn => by rw [p2.len]; exact (f2 x y hxy hn).2) hgc (by rw [p2.len]; exact hai1) (by rw [p2.len]; exact hai.2) hai.1 e1
  rw [p2.len] at n4 n2
  have n4 := Nat.le_trans n4 (cube_le hl)
  have c1 : w.cell? ⟨pb, 1, none⟩ = some (.slice ta l.length tc) := h.cells.cell (i := 1) (by omega)
  have NP := newProof_in w l (by omega) (fun t ht => ⟨hB.oks t ht, fun x hx => by obtain ⟨i, hi, e⟩ := List.getElem_of_mem ht; exact hb.args i t (by rw [← e]; exact List.getElem?_eq_getElem hi) x hx⟩) ta tc hT da dc told hD (by omega) (fun q hq => ⟨by have := hti q hq; omega, (hti q hq).2⟩) F p1
  have NP2 : Calls Tryz.prog 92 #[.slice ta l.length tc, .slice da told.length dc] w fun e w' => ∃ qb, e = .returned (.pointer (some ⟨qb, 0, none⟩)) ∧ Hid (PrM w' qb (.slice ta l.length tc) (.slice da told.length dc) l.length F.L ∧ Below w.heap.size w w') := by
    refine NP.mono ?_
    rintro e w1 ⟨qb, sp, nb', kb', jv, t, lv', rfl, hM, hR, hB1⟩
    exact ⟨qb, rfl, PrM.of hM hR (by omega), hB1⟩
  have HA : Hid (_ ∧ _ ∧ _ ∧ _ ∧ _ ∧ _ ∧ _ ∧ _ ∧ _) := And.intro h (And.intro hB (And.intro hT (And.intro hD (And.intro hti (And.intro htv (And.intro hP (And.intro hav hcg)))))))
  have HE : Hid (_ ∧ _ ∧ _ ∧ _ ∧ _) := And.intro p1 (And.intro p2.lnk (And.intro f2 (And.intro hgc e1)))
  have HN : Hid (_ ∧ _ ∧ _ ∧ _) := And.intro n1 (And.intro n2 (And.intro n3 n4))
  clear h hB hT hD hti htv hP hav hcg NP p1 p2 p3 f1 f2 e1 n1 n2 n3 n4 hgc
  obtain ⟨tn, htn⟩ : ∃ t, told.length = t := ⟨_, rfl⟩
  have HTN : Hid _ := htn
  obtain ⟨ln, hln⟩ : ∃ t, l.length = t := ⟨_, rfl⟩
  have HLN : Hid _ := hln
  rw [htn] at NP2 htl ⊢
  rw [hln] at NP2 c1 hl hai hai1
  clear htn hln
  go_enter Tryz.func49, Tryz.ntmps49
  go_wp2_with (first | (go_at_call 92; refine NP2.mono ?_; rintro e w1 ⟨qb, rfl, H1⟩))
  go_loopw [20] (fun t20 W => (t20 = .int .i64 0 ∧ W = w1) ∨ (t20 = .int .i64 1 ∧ Hid (∃ Q S' lv', LrnR l told F [a] P Q ∧ PmX S w S' W pb vb kb (.pointer (some ⟨p, 0, none⟩)) (.slice ta ln tc) fv lv lv' Q))) (fun t20 _ => 1 - (intOf t20).toNat)
  case atStart => exact Or.inl ⟨rfl, rfl⟩
  case round =>
    rcases hrel with ⟨rfl, rfl⟩ | ⟨rfl, HQ⟩
    · obtain ⟨gb, go, rfl, hcp⟩ : ∃ b off, pa = some ⟨b, off, none⟩ ∧ (w.cell? ⟨b, off, none⟩ = some (.int .i64 (a.1 : Int)) ∧ w.cell? ⟨b, off + 1, none⟩ = some (.int .i64 (a.2 : Int))) := by
        obtain ⟨a', c', e, h2⟩ := HA.out.2.2.2.2.2.2.1
        cases e
        rcases h2 with h2 | ⟨b, off, rfl, h2⟩
        · cases h2
        · have := h2 0 a rfl
          simp only [Nat.zero_mul, Nat.add_zero] at this
          exact ⟨b, off, rfl, this⟩
      have q1 := (H1.out.2.cell (World.block_lt_of_cell? w _ hcp.1)).trans hcp.1
      have q2 := (H1.out.2.cell (World.block_lt_of_cell? w _ hcp.2)).trans hcp.2
      have Ba : Below wr.heap.size wr (wr.alloc (.cells #[.int .i64 (a.1 : Int), .int .i64 (a.2 : Int)] 34)) := (Below.refl _ _).alloc (Nat.le_refl _) _
      have Bw : Below w.heap.size w (wr.alloc (.cells #[.int .i64 (a.1 : Int), .int .i64 (a.2 : Int)] 34)) := H1.out.2.trans (Ba.mono H1.out.2.size)
      have M2 := H1.out.1.below Ba
      rw [← HLN.out, ← HTN.out] at M2
      obtain ⟨lv2, m3, mN⟩ := M2.x3
      have ST := dsteps_in (wr.alloc (.cells #[.int .i64 (a.1 : Int), .int .i64 (a.2 : Int)] 34)) qb ta tc (.slice da told.length dc) lv2 l told F.L l.length M2.len rfl (by rw [HLN.out]; omega) M2.few (by rw [M2.len]; exact M2.x1) M2.x2 m3 (by rw [M2.len]; exact HA.out.2.2.1.mono (Mono.below Bw)) (HA.out.2.2.2.1.below Bw) (by rw [HTN.out]; omega) mN E HE.out.2.1 HE.out.2.2.1 a ⟨HE.out.2.2.2.1, by rw [HLN.out]; exact hai1, by rw [HLN.out]; exact hai.2⟩ SF HE.out.2.2.2.2
      have HBw : Hid _ := Bw
      have z1 : (wr.alloc (.cells #[.int .i64 (a.1 : Int), .int .i64 (a.2 : Int)] 34)).cell? ⟨wr.heap.size, 0, none⟩ = some (.int .i64 (a.1 : Int)) := by simp
      have z2 : (wr.alloc (.cells #[.int .i64 (a.1 : Int), .int .i64 (a.2 : Int)] 34)).cell? ⟨wr.heap.size, 1, none⟩ = some (.int .i64 (a.2 : Int)) := by simp
      clear hcp Ba Bw M2 m3 mN
      go_wp2_with (first | (go_at_call 93; refine ST.mono ?_; rintro e w3 ⟨v3, rfl, R3, B3⟩; refine Aside.out ?_))
      delta Aside
      have HB3 : Hid (Below w.heap.size w w3) := HBw.out.trans (B3.mono HBw.out.size)
      have y1 := (B3.cell (World.block_lt_of_cell? _ _ z1)).trans z1
      have y2 := (B3.cell (World.block_lt_of_cell? _ _ z2)).trans z2
      have hPm3 := HA.out.1.below HB3.out
      have hSF : SF.length ≤ 6750000 := HN.out.2.2.2
      have hoks : ∀ s ∈ SF, SkOk s := fun st hst => by
        obtain ⟨o1, o2⟩ := HN.out.2.1 st hst
        rw [HLN.out] at o1 o2
        exact ⟨⟨by have := o1.1; omega, by have := o1.2; omega⟩, fun q hq => ⟨by have := (o2 q hq).1; omega, by have := (o2 q hq).2; omega⟩⟩
      have RM := hasRoom_in S w3 pb vb kb _ _ fv lv P hPm3 (by omega) _ v3 SF R3 (by omega) (fun st hst => (hoks st hst).1)
      obtain ⟨va, vc, hva⟩ := ownsRow_form R3
      subst hva
      have HR3 : Hid (_ ∧ _) := And.intro R3 hoks
      obtain ⟨sn, hsn⟩ : ∃ q, SF.length = q := ⟨_, rfl⟩
      have HSN : Hid _ := hsn
      rw [hsn] at hSF RM ⊢
      clear ST R3 B3 hPm3 hoks hsn z1 z2 q1 q2
      by_cases hroom : P.count + (missN P SF []).length ≤ 2000
      · rw [decide_eq_true hroom] at RM
        apply_assumption
        go_wp2_with (first | (go_at_call 94; refine RM.mono ?_; rintro e w4 ⟨rfl, B4⟩))
        have HB4 : Hid (Below w.heap.size w w4) := HB3.out.trans (B4.mono HB3.out.size)
        have HI0 : Hid (∃ S' lv', PmX S w S' w4 pb vb kb (.pointer (some ⟨p, 0, none⟩)) (.slice ta l.length tc) fv lv lv' ((SF.take 0).foldl Pb.step P) ∧ w4.ownsRow 0 206 10 (.slice va SF.length vc) SF.length (stRow SF)) := ⟨S, lv, (PmX.start HA.out.1).below HB4.out, ownsRow_below (row_low HR3.out.1 (Nat.zero_le _)) B4⟩
        have HG : Hid (∀ j, (((SF.take j).foldl Pb.step P).lemmas.length ≤ 10000000 ∧ ((SF.take j).foldl Pb.step P).count < 100000 ∧ ((SF.take j).foldl Pb.step P).vars.length < 100000 ∧ ((SF.take j).foldl Pb.step P).known.length < 1000000000 ∧ VrS ((SF.take j).foldl Pb.step P))) := fun j => by
          have hG := Gr.proof P (S := SF) (told := told) (fun q hq => by obtain ⟨x, hx, _⟩ := HA.out.2.2.2.2.2.1 q hq; rw [show P.num q = some x from hx]; simp) HN.out.1 j
          have h0 : SF.length ≤ 6750000 := HN.out.2.2.2
          have hjl : (SF.take j).length ≤ 6750000 := by rw [List.length_take]; omega
          have h1 := hG.cnt
          have h2 := hG.count
          have h3 := hG.vars
          have h4 := hG.lem
          have h5 := hG.kn
          exact ⟨by omega, by omega, by omega, by omega, VrS.steps _ P hvs⟩
        clear RM B4 y1 y2
        rw [HSN.out] at HI0
        go_loopw [37] (fun t37 W => ∃ j : Nat, j ≤ sn ∧ t37 = .int .i64 (j : Int) ∧ Hid (∃ S' lv', PmX S w S' W pb vb kb (.pointer (some ⟨p, 0, none⟩)) (.slice ta l.length tc) fv lv lv' ((SF.take j).foldl Pb.step P) ∧ W.ownsRow 0 206 10 (.slice va sn vc) sn (stRow SF))) (fun t37 _ => sn - (intOf t37).toNat)
        case atStart => exact ⟨0, Nat.zero_le _, rfl, HI0⟩
        case round =>
          obtain ⟨j, hj, rfl, HJ⟩ := hrel
          clear HI0
          obtain ⟨Sj, lvj, Xj, Rj⟩ := HJ.out
          by_cases hlt : j < sn
          · have dj : decide ((j : Int) < (sn : Int)) = true := decide_eq_true (by omega)
            have hwj : IntKind.i64.wrap ((j : Int) + 1) = (j : Int) + 1 := by rw [IntKind.wrap_i64]; omega
            have hjl : j < SF.length := by rw [HSN.out]; exact hlt
            have hge := List.getElem?_eq_getElem hjl
            have hsk := HR3.out.2 _ (List.getElem_mem hjl)
            have hsu : (SF.take (j + 1)).foldl Pb.step P = ((SF.take j).foldl Pb.step P).step SF[j] := by
              rw [List.take_add_one, hge, Option.toList_some, List.foldl_append]
              rfl
            generalize SF[j] = st at *
            obtain ⟨x0, x1, x2, x3, x4, x5, x6, x7, x8, x9, hfl⟩ := flat4_ex st.1 st.2
            obtain ⟨gb2, hva⟩ : ∃ g, va = some ⟨g, 0, none⟩ := by
              rcases Rj.2 with ⟨e, h0⟩ | ⟨g, cap, cur, e, _⟩
              · rw [h0] at hlt; exact absurd hlt (Nat.not_lt_zero _)
              · cases e; exact ⟨g, rfl⟩
            subst hva
            have hcell : ∀ (t u : Nat), [x0, x1, x2, x3, x4, x5, x6, x7, x8, x9][t]? = some u → wr.cell? ⟨gb2, j * 10 + t, none⟩ = some (.int .i64 (u : Int)) := fun t u hu => by
              have := Rj.cells (g := gb2) rfl _ _ (stRow_get hge hfl t u hu)
              rw [Addr.add_lit, Nat.zero_add] at this
              exact this
            have y0 := hcell 0 x0 rfl
            rw [Nat.add_zero] at y0
            have y1 := hcell 1 x1 rfl
            have y2 := hcell 2 x2 rfl
            have y3 := hcell 3 x3 rfl
            have y4 := hcell 4 x4 rfl
            have y5 := hcell 5 x5 rfl
            have y6 := hcell 6 x6 rfl
            have y7 := hcell 7 x7 rfl
            have y8 := hcell 8 x8 rfl
            have y9 := hcell 9 x9 rfl
            have Bx : Below wr.heap.size wr (wr.alloc (.cells #[.int .i64 (x0 : Int), .int .i64 (x1 : Int), .int .i64 (x2 : Int), .int .i64 (x3 : Int), .int .i64 (x4 : Int), .int .i64 (x5 : Int), .int .i64 (x6 : Int), .int .i64 (x7 : Int), .int .i64 (x8 : Int), .int .i64 (x9 : Int)] 206)) := (Below.refl _ _).alloc (Nat.le_refl _) _
            have X2 := Xj.below Bx
            obtain ⟨g1, g2, g3, g4, g5⟩ := HG.out j
            have LS := learnStep_in Sj _ pb vb kb _ _ fv lvj _ X2.is st hsk g1 g2 g3 g4 g5
            rw [skV_at hfl] at LS
            have HX2 : Hid (_ ∧ _) := And.intro X2 (ownsRow_below Rj Bx)
            have HSU : Hid _ := hsu
            clear HJ Xj Rj hcell X2 Bx hsu g1 g2 g3 g4 g5 hge hsk hfl
            go_wp2_with (first | (go_at_call 96; refine LS.mono ?_; rintro e w5 ⟨rfl, S5, lv5, X5⟩))
            refine ⟨⟨j + 1, hlt, by simp, ?_⟩, by simp [intOf]; omega⟩
            rw [HSU.out]
            exact ⟨S5, lv5, HX2.out.1.trans X5, rowS_pmx HX2.out.2 HX2.out.1.is X5⟩
          · have dj : decide ((j : Int) < (sn : Int)) = false := decide_eq_false (by omega)
            obtain rfl : j = sn := by omega
            have HF : Hid (∃ Q S' lv', LrnR l told F [a] P Q ∧ PmX S w S' wr pb vb kb (.pointer (some ⟨p, 0, none⟩)) (.slice ta ln tc) fv lv lv' Q) := by
              rw [List.take_of_length_le (by rw [HSN.out]; exact Nat.le_refl _), HLN.out] at Xj
              exact ⟨_, Sj, lvj, ⟨_, ⟨SF, HE.out.2.2.2.2, fun _ => rfl, fun hr => absurd hroom hr⟩, rfl⟩, Xj⟩
            clear HJ Xj Rj
            go_wp2_with fail
            exact ⟨Or.inr ⟨rfl, HF⟩, by simp [intOf]⟩
      · rw [decide_eq_false hroom] at RM
        apply_assumption
        go_wp2_with (first | (go_at_call 94; refine RM.mono ?_; rintro e w4 ⟨rfl, B4⟩; refine Aside.out ?_))
        delta Aside
        have HB4 : Hid (Below w.heap.size w w4) := HB3.out.trans (B4.mono HB3.out.size)
        have x1 := (B4.cell (World.block_lt_of_cell? w3 _ y1)).trans y1
        have x2 := (B4.cell (World.block_lt_of_cell? w3 _ y2)).trans y2
        have LW := learnWhole_in S w4 pb vb kb (.slice ta l.length tc) fv lv P base p ev nb fb l (HA.out.1.below HB4.out) (HA.out.2.1.below HA.out.2.1.low HB4.out) hb (by rw [HLN.out]; exact hl) da dc told (HA.out.2.2.2.1.below HB4.out) (by rw [HTN.out]; exact htl) (fun q hq => by have := HA.out.2.2.2.2.1 q hq; omega) HA.out.2.2.2.2.2.1 a ⟨by rw [HLN.out]; exact hai1, by rw [HLN.out]; exact hai.2⟩ V HA.out.2.2.2.2.2.2.2.1 HA.out.2.2.2.2.2.2.2.2 (by omega)
        rw [HTN.out] at LW
        clear RM B4 y1 y2
        apply_assumption
        go_wp2_with (first | (go_at_call 95; refine LW.mono ?_; rintro e w5 ⟨rfl, ns, S5, lv5, hfit, X5⟩))
        refine ⟨Or.inr ⟨rfl, _, S5, lv5, ⟨_, ⟨SF, HE.out.2.2.2.2, fun hr => absurd hr hroom, fun _ => ⟨ns, hfit, rfl⟩⟩, rfl⟩, ?_⟩, by simp [intOf]⟩
        rw [← HLN.out]
        exact ((PmX.start HA.out.1).below HB4.out).trans X5
    · go_wp2_with fail
      refine ⟨rfl, .tuple #[], by simp [results, Tryz.results49], rfl, F, ?_⟩
      obtain ⟨Q, S', lv', h1, h2⟩ := HQ.out
      rw [← HLN.out] at h2
      exact ⟨Q, S', lv', HE.out.1, h1, h2⟩
end Go.Proofs.YtlehlgipbhfioaaGreat

namespace Go.Proofs.YtlehlgipbhfioaaGreat
open Go.RowKit Go.Maps

/-- Values that are clauses. -/
def CsV (W : World) (xs : List Value) (css : List (List Int)) : Prop := xs.length = css.length ∧ ∀ (i : Nat) (c : List Int), css[i]? = some c → ∃ ra rc, xs[i]? = some (.slice ra c.length rc) ∧ ClsAt W ra c
theorem CsV.app {W : World} {xs ys : List Value} {cs ds : List (List Int)} (h : CsV W xs cs) (k : CsV W ys ds) : CsV W (xs ++ ys) (cs ++ ds) := by
  refine ⟨by simp [h.1, k.1], fun i c hi => ?_⟩
  by_cases hl : i < cs.length
  · rw [List.getElem?_append_left hl] at hi
    rw [List.getElem?_append_left (by rw [h.1]; exact hl)]
    exact h.2 i c hi
  · rw [List.getElem?_append_right (by omega)] at hi
    rw [List.getElem?_append_right (by rw [h.1]; omega), h.1]
    exact k.2 _ c hi
theorem CsV.mono {W W' : World} (hm : Mono W W') {xs : List Value} {cs : List (List Int)} (h : CsV W xs cs) : CsV W' xs cs := by
  refine ⟨h.1, fun i c hi => ?_⟩
  obtain ⟨ra, rc, h1, h2⟩ := h.2 i c hi
  exact ⟨ra, rc, h1, h2.mono hm⟩
theorem CsV.one {W : World} {xs : List Value} {cs : List (List Int)} (h : CsV W xs cs) : ∀ v ∈ xs, v.oneCell' = true := fun v hv => by
  obtain ⟨i, hi, e⟩ := List.getElem_of_mem hv
  obtain ⟨ra, rc, h1, _⟩ := h.2 i _ (List.getElem?_eq_getElem (by rw [← h.1]; exact hi))
  rw [List.getElem?_eq_getElem hi, e] at h1
  cases h1
  rfl
/-- Clauses in memory are a part. -/
theorem CssAt.part {W : World} {ca : Option Addr} {cc : Nat} {cs : List (List Int)} (h : CssAt W ca cs) : ∃ xs, PartAt 1 W (.slice ca cs.length cc) cs.length xs ∧ CsV W xs cs := by
  rcases h with e | ⟨b, off, rfl, h⟩
  · subst e
    exact ⟨[], ⟨ca, cc, rfl, rfl, by simp, Or.inl rfl⟩, rfl, fun i c hi => by simp at hi⟩
  · refine ⟨(List.range cs.length).map fun i => (W.cell? ⟨b, off + i, none⟩).getD undef, ?_⟩
    have hv : CsV W ((List.range cs.length).map fun i => (W.cell? ⟨b, off + i, none⟩).getD undef) cs := by
      refine ⟨by simp, fun i c hi => ?_⟩
      have hl := (List.getElem?_eq_some_iff.1 hi).1
      obtain ⟨ra, rc, h1, h2⟩ := h i c hi
      refine ⟨ra, rc, ?_, h2⟩
      rw [List.getElem?_map, List.getElem?_range hl, Option.map_some, h1]
      rfl
    refine ⟨⟨_, cc, rfl, by simp, hv.one, Or.inr ⟨b, off, rfl, fun j v hj => ?_⟩⟩, hv⟩
    have hl : j < cs.length := by have := (List.getElem?_eq_some_iff.1 hj).1; simpa using this
    rw [List.getElem?_map, List.getElem?_range hl, Option.map_some] at hj
    obtain ⟨ra, rc, h1, _⟩ := h j _ (List.getElem?_eq_getElem hl)
    rw [h1] at hj ⊢
    simpa using hj
/-- The lemmas are. -/
theorem Pm.part {S : Nat → Prop} {W : World} {pb vb kb : Nat} {bk tv fv lv : Value} {P : Pb} (h : Pm S W pb vb kb bk tv fv lv P) : ∃ a c xs, lv = .slice a P.lemmas.length c ∧ PartAt 1 W lv P.lemmas.length xs ∧ CsV W xs P.lemmas := by
  obtain ⟨rs, r1, r2, r3⟩ := h.rows
  obtain ⟨a, c, rfl⟩ := ownsRow_form r1
  have hv : CsV W rs P.lemmas := ⟨r2, fun i q hq => by obtain ⟨g, cap, q1, _, q3⟩ := r3 i q hq; exact ⟨_, cap, q1, q3.cls⟩⟩
  refine ⟨a, c, rs, by rw [r2], ⟨a, c, by rw [r2], by rw [r2, Nat.mul_one], hv.one, ?_⟩, hv⟩
  rcases id r1.2 with ⟨e, h0⟩ | ⟨g, cap, cur, e, _⟩
  · left; omega
  · cases e
    refine Or.inr ⟨g, 0, rfl, fun j v hj => ?_⟩
    have hjl := (List.getElem?_eq_some_iff.1 hj).1
    rw [Nat.zero_add, r1.cellAt j (by omega)]
    exact hj
theorem infoCss : (Tryz.prog.info? 116).map (fun i => (i.zero, i.size, i.bytes)) = some (some (.slice none 0 0), 1, 24) := by kernel_rfl

/-- The parts that clausesOf puts together. -/
def psN (P : Pb) (fs : List Fm) (lx : List Value) (X : Nat → List Value) (ns : List Nat) : List (Nat × List Value) := (P.lemmas.length, lx) :: ns.map fun n => ((Fm.get fs n).cs.length, X n)
theorem psN_csv {W : World} {P : Pb} {fs : List Fm} {lx : List Value} {X : Nat → List Value} (hl : CsV W lx P.lemmas) : ∀ (ns : List Nat), (∀ n ∈ ns, CsV W (X n) (Fm.get fs n).cs) → CsV W (catV (psN P fs lx X ns)) (clsN P fs ns) ∧ catN (psN P fs lx X ns) = (clsN P fs ns).length := by
  intro ns h
  have e1 : catV (psN P fs lx X ns) = lx ++ ns.flatMap X := by simp [catV, psN, List.flatMap_map]
  have key : ∀ ns : List Nat, (∀ n ∈ ns, CsV W (X n) (Fm.get fs n).cs) → CsV W (ns.flatMap X) (ns.flatMap fun n => (Fm.get fs n).cs) := by
    intro ns
    induction ns with
    | nil => intro _; exact ⟨rfl, fun i c hi => by simp at hi⟩
    | cons a r ih =>
      intro h
      rw [List.flatMap_cons, List.flatMap_cons]
      exact (h a (by simp)).app (ih fun n hn => h n (by simp [hn]))
  have hc : CsV W (catV (psN P fs lx X ns)) (clsN P fs ns) := by
    rw [e1]
    exact hl.app (key ns h)
  refine ⟨hc, ?_⟩
  simp [catN, psN, clsN, List.length_flatMap, List.map_map, Function.comp_def]

set_option maxRecDepth 100000 in
set_option maxHeartbeats 1000000 in
theorem clausesOf_in (S : Nat → Prop) (w : World) (pb vb kb : Nat) (bk tv fv lv : Value) (P : Pb) (h : Pm S w pb vb kb bk tv fv lv P) (N : Nat) (fs : List Fm) (ha : FmsAt w N fv fs) (xa : Option Addr) (xc : Nat) (ns : List Nat) (hx : NsAt w (.slice xa ns.length xc) ns) (hns : ∀ n ∈ ns, n < fs.length) (hnl : ns.length ≤ 100000) (hcl : (clsN P fs ns).length ≤ 100000000) :
    Calls Tryz.prog 45 #[.pointer (some ⟨pb, 0, none⟩), .slice xa ns.length xc] w fun e w' => ∃ ca cc, e = .returned (.slice ca (clsN P fs ns).length cc) ∧ CssAt w' ca (clsN P fs ns) ∧ Below w.heap.size w w' := by
  obtain ⟨la, lc, lx, hlv, hlp, hlc⟩ := h.part
  subst hlv
  have c5 : w.cell? ⟨pb, 5, none⟩ = some (.slice la P.lemmas.length lc) := h.cells.cell (i := 5) (by omega)
  obtain ⟨fa, fc, hfv, ha⟩ := ha
  subst hfv
  have c2 : w.cell? ⟨pb, 2, none⟩ = some (.slice fa fs.length fc) := h.cells.cell (i := 2) (by omega)
  have hX : ∀ n : Nat, ∃ X : List Value, ∀ hn : n < fs.length, ∃ b off ca cc, fa = some ⟨b, off, none⟩ ∧ w.cell? ⟨b, off + n * 6 + 5, none⟩ = some (.slice ca (Fm.get fs n).cs.length cc) ∧ PartAt 1 w (.slice ca (Fm.get fs n).cs.length cc) (Fm.get fs n).cs.length X ∧ CsV w X (Fm.get fs n).cs := fun n => by
    by_cases hn : n < fs.length
    · have e := List.getElem?_eq_getElem hn
      obtain ⟨b, off, h3, op, x, y, ka, kn, kc, au, cu, f, ⟨_, _, _, _, _, c5⟩, _, _, _, _, ca, cc, rfl, hcs⟩ := ha n _ e
      obtain ⟨xs, x1, x2⟩ := hcs.part (cc := cc)
      exact ⟨xs, fun _ => ⟨b, off, ca, cc, h3, by rw [Fm.get_at e]; exact c5, by rw [Fm.get_at e]; exact x1, by rw [Fm.get_at e]; exact x2⟩⟩
    · exact ⟨[], fun h => absurd h hn⟩
  obtain ⟨X, hX⟩ := Classical.axiomOfChoice hX
  obtain ⟨n, hn⟩ : ∃ n, ns.length = n := ⟨_, rfl⟩
  have HN : Hid _ := hn
  rw [hn] at hnl ⊢
  have HX : Hid (_ ∧ _ ∧ _ ∧ _ ∧ _ ∧ _) := And.intro hX (And.intro hx (And.intro hns (And.intro hlp (And.intro hlc hcl))))
  clear hX hx hns hlp hlc hcl h ha hn
  have HI0 : Hid (∃ vs : List Value, (w.alloc (.cells #[.slice la P.lemmas.length lc] 116)).ownsRow w.heap.size 116 1 (.slice (some ⟨w.heap.size, 0, none⟩) 1 1) (0 + 1) vs ∧ Below w.heap.size w (w.alloc (.cells #[.slice la P.lemmas.length lc] 116)) ∧ ∀ (j : Nat) (q : Nat × List Value), (psN P fs lx X (ns.take 0))[j]? = some q → ∃ u, vs[j]? = some u ∧ PartAt 1 w u q.1 q.2) := by
    refine ⟨[.slice la P.lemmas.length lc], ⟨rfl, Or.inr ⟨w.heap.size, 1, #[.slice la P.lemmas.length lc], rfl, Nat.le_refl _, heap_alloc_new _ _, Nat.le_refl _, by unfold maxLen; omega, rfl, rfl⟩⟩, (Below.refl _ _).alloc (Nat.le_refl _) _, fun j q hq => ?_⟩
    match j, hq with
    | 0, hq => simp [psN] at hq; subst hq; exact ⟨_, rfl, HX.out.2.2.2.1⟩
    | j + 1, hq => simp [psN] at hq
  go_enter Tryz.func45, Tryz.ntmps45
  go_wp2_with fail
  generalize w.alloc (.cells #[.slice la P.lemmas.length lc] 116) = w1 at *
  obtain ⟨g0, hg0⟩ : ∃ m, w.heap.size = m := ⟨_, rfl⟩
  have HG0 : Hid _ := hg0
  simp only [hg0] at HI0 ⊢
  clear hg0 c5
  obtain ⟨i0, hi0, hz0, hz1, hz2⟩ := info_parts infoCss
  go_loopw [5, 15] (fun t5 t15 W => ∃ i : Nat, i ≤ n ∧ t15 = .int .i64 (i : Int) ∧ Hid (∃ vs : List Value, W.ownsRow g0 116 1 t5 (i + 1) vs ∧ Below g0 w W ∧ ∀ (j : Nat) (q : Nat × List Value), (psN P fs lx X (ns.take i))[j]? = some q → ∃ u, vs[j]? = some u ∧ PartAt 1 w u q.1 q.2)) (fun _ t15 _ => n - (intOf t15).toNat)
  case atStart => exact ⟨0, Nat.zero_le _, rfl, HI0⟩
  case round =>
    obtain ⟨i, hi, rfl, HJ⟩ := hrel
    clear HI0
    obtain ⟨vs, hrow, hbel, hvs⟩ := HJ.out
    obtain ⟨va, vc, hva⟩ := ownsRow_form hrow
    subst hva
    rw [← HG0.out] at hbel hrow
    by_cases hlt : i < n
    · have di : decide ((i : Int) < (n : Int)) = true := decide_eq_true (by omega)
      have hwi : IntKind.i64.wrap ((i : Int) + 1) = (i : Int) + 1 := wrap_nat1 (by omega)
      have hil : i < ns.length := by rw [HN.out]; exact hlt
      obtain ⟨xb, xo, xc', ex, qx⟩ := HX.out.2.1.get (List.getElem?_eq_getElem hil)
      cases ex
      have hxk := HX.out.2.2.1 _ (List.getElem_mem hil)
      have hsu : psN P fs lx X (ns.take (i + 1)) = psN P fs lx X (ns.take i) ++ [((Fm.get fs ns[i]).cs.length, X ns[i])] := by
        unfold psN
        rw [List.take_add_one, List.getElem?_eq_getElem hil, Option.toList_some, List.map_append]
        rfl
      have hpl : (psN P fs lx X (ns.take i)).length = i + 1 := by simp [psN]; omega
      generalize ns[i] = x at *
      obtain ⟨fb, fo, ca, cc, rfl, q5, hpt, _⟩ := HX.out.1 x hxk
      have hget : ∀ {a : Addr} {u : Value}, w.cell? a = some u → wr.cell? a = some u := fun hc => (hbel.cell (World.block_lt_of_cell? w _ hc)).trans hc
      have qx := hget qx
      have q5 := hget q5
      have c2 := hget c2
      have hbs := hbel.size
      have hvl : vs.length = i + 1 := by have := hrow.1; omega
      have HF0 : Hid (_ ∧ _ ∧ _ ∧ _ ∧ _) := And.intro hbel (And.intro hvs (And.intro hpt (And.intro hsu hpl)))
      generalize (Fm.get fs x).cs.length = cl at *
      generalize fs.length = fl at *
      clear HJ hbel hvs hpt hsu hget HX
      go_wp2_with (first | (at_builtin; refine Aside.out ?_))
      delta Aside
      refine wpList_append_own_at _ rfl _ _ 194 rfl w.heap.size 116 i0 _ 1 24 Tryz.underlying194 hi0 hz0 hz1 hz2 rfl (by decide) _ _ _ rfl (hrow.alloc _) ⟨_, 0, none⟩ 1 1 [.slice ca cl cc] rfl rfl (cell_oneV wr _ _) (by simp [Value.oneCell']) (by unfold maxLen; omega) (by omega) (by simp; omega) ?_
      intro v8 w8 hown8 hgrow8 _ hat8
      have K8 : Kept (fun k => (Value.slice va (i + 1) vc).ownBlock = some k) wr w8 := Kept.grown ((Kept.refl _ wr).alloc _) hgrow8 (fun k e => e)
      have HF : Hid (∃ vs : List Value, w8.ownsRow g0 116 1 v8 (i + 1 + 1) vs ∧ Below g0 w w8 ∧ ∀ (j : Nat) (q : Nat × List Value), (psN P fs lx X (ns.take (i + 1)))[j]? = some q → ∃ u, vs[j]? = some u ∧ PartAt 1 w u q.1 q.2) := by
        obtain ⟨hbel, hvs, hpt, hsu, hpl⟩ := HF0.out
        rw [← HG0.out, hsu]
        refine ⟨_, hown8, hbel.trans (K8.below hbs (fun q hq => (ownsRow_lt hrow hq).1)), fun j q hq => ?_⟩
        by_cases hj : j < i + 1
        · rw [List.getElem?_append_left (by rw [hpl]; exact hj)] at hq
          obtain ⟨u, u1, u2⟩ := hvs j q hq
          exact ⟨u, by rw [List.getElem?_append_left (by omega)]; exact u1, u2⟩
        · rw [List.getElem?_append_right (by rw [hpl]; omega), hpl] at hq
          have hj0 : j - (i + 1) = 0 := by
            have := (List.getElem?_eq_some_iff.1 hq).1
            simp at this
            omega
          rw [hj0] at hq
          simp at hq
          subst hq
          exact ⟨_, by rw [List.getElem?_append_right (by omega), hvl, hj0]; rfl, hpt⟩
      clear hown8 hgrow8 hat8 K8 hrow HF0 q5 qx
      go_wp2_with fail
      exact ⟨⟨i + 1, hlt, by simp, HF⟩, by simp [intOf]; omega⟩
    · have di : decide ((i : Int) < (n : Int)) = false := decide_eq_false (by omega)
      obtain rfl : i = n := by omega
      rw [List.take_of_length_le (by rw [HN.out]; exact Nat.le_refl _)] at hvs
      obtain ⟨z1, z2⟩ := psN_csv (fs := fs) (X := X) HX.out.2.2.2.2.1 ns (fun m hm => by obtain ⟨_, _, _, _, _, _, _, e⟩ := HX.out.1 m (HX.out.2.2.1 m hm); exact e)
      have hpl : (psN P fs lx X ns).length = i + 1 := by simp [psN, HN.out]
      have CA := catC_in wr va vc (psN P fs lx X ns) (fun j q hq => by
        obtain ⟨u, u1, u2⟩ := hvs j q hq
        have hjl := (List.getElem?_eq_some_iff.1 u1).1
        rcases id hrow.2 with ⟨e, h0⟩ | ⟨g, cap, cur, e, _⟩
        · cases h0
        · cases e
          exact ⟨g, 0, u, rfl, by rw [Nat.zero_add, hrow.cellAt j (by have := hrow.1; omega)]; exact u1, u2.below hbel⟩) (by rw [z2]; have := HX.out.2.2.2.2.2; omega) (by omega)
      rw [hpl, z2] at CA
      have HF : Hid (_ ∧ _) := And.intro hbel z1
      obtain ⟨tl, htl⟩ : ∃ t, t = (clsN P fs ns).length := ⟨_, rfl⟩
      rw [← htl] at CA
      have HTL : Hid _ := htl
      clear htl
      clear HJ hvs hrow hbel z1 HX
      go_wp2_with (first | (go_at_call 88; refine CA.mono ?_; rintro e w3 ⟨v3, rfl, R3, B3⟩))
      go_ret
      obtain ⟨ca, cc, rfl⟩ := ownsRow_form R3
      refine ⟨ca, cc, by rw [HTL.out]; rfl, ?_, HF.out.1.trans (B3.mono HF.out.1.size)⟩
      have hv := HF.out.2.mono ((Mono.below HF.out.1).trans (Mono.below B3))
      rcases id R3.2 with ⟨e, h0⟩ | ⟨g, cap, cur, e, _⟩
      · exact Or.inl (List.eq_nil_of_length_eq_zero (by rw [← HTL.out, h0]))
      · cases e
        refine Or.inr ⟨g, 0, rfl, fun k c hk => ?_⟩
        obtain ⟨ra, rc, h1, h2⟩ := hv.2 k c hk
        have hkl := (List.getElem?_eq_some_iff.1 h1).1
        exact ⟨ra, rc, by rw [Nat.zero_add, R3.cellAt k (by have := R3.1; omega)]; exact h1, h2⟩
end Go.Proofs.YtlehlgipbhfioaaGreat
