/- law05: LogicClauses: its walk. LogicClauses: the statement. -/
import Derived.Test.YtinphcnknionmabP45
import Derived.JoinedCond
import Derived.ChangeOld
namespace Go.Proofs.Ytinphcnknionmab
open Go.RowKit Go.Maps

/-- What is known behind the calls. -/
structure LcS (w W : World) (op x y : Int) (kv : Value) (xb : Nat) (op2 x2 y2 : Int) (kv2 : Value) (f : Fo) (ca : Option Addr) (cs : List (List Int)) : Prop where
  lf : LfAt w W op x y kv xb op2 x2 y2 kv2 f
  cl : Cl2 W ca cs
theorem LcS.keep {w W W' : World} {op x y : Int} {kv : Value} {xb : Nat} {op2 x2 y2 : Int} {kv2 : Value} {f : Fo} {ca : Option Addr} {cs : List (List Int)} (h : LcS w W op x y kv xb op2 x2 y2 kv2 f ca cs) (hB : Below W.heap.size W W') : LcS w W' op x y kv xb op2 x2 y2 kv2 f ca cs := ⟨h.lf.keep hB, h.cl.below hB⟩
theorem pr_of {W : World} {base : Nat} {ty : TypeId} {pa : Option Addr} {pc : Nat} {m : List (Int × Int)} (h : W.ownsRow base ty 2 (.slice pa m.length pc) m.length (pairC m)) : PrAt W pa m := by
  rcases want_of h with e | ⟨g, cap, h1, _, h3⟩
  · exact Or.inl e
  · simp at h1
    obtain ⟨rfl, rfl⟩ := h1
    exact Or.inr ⟨g, 0, rfl, fun i p hi => by simpa using h3 i p hi⟩

theorem pow_small {k : Nat} (h : ¬ 10 < k) : ∃ M : Nat, wrap64 ((2 : Int) ^ k) = (M : Int) ∧ M ≤ 1024 := by
  have : k = 0 ∨ k = 1 ∨ k = 2 ∨ k = 3 ∨ k = 4 ∨ k = 5 ∨ k = 6 ∨ k = 7 ∨ k = 8 ∨ k = 9 ∨ k = 10 := by omega
  rcases this with rfl | rfl | rfl | rfl | rfl | rfl | rfl | rfl | rfl | rfl | rfl
  · exact ⟨1, by decide +kernel, by decide⟩
  · exact ⟨2, by decide +kernel, by decide⟩
  · exact ⟨4, by decide +kernel, by decide⟩
  · exact ⟨8, by decide +kernel, by decide⟩
  · exact ⟨16, by decide +kernel, by decide⟩
  · exact ⟨32, by decide +kernel, by decide⟩
  · exact ⟨64, by decide +kernel, by decide⟩
  · exact ⟨128, by decide +kernel, by decide⟩
  · exact ⟨256, by decide +kernel, by decide⟩
  · exact ⟨512, by decide +kernel, by decide⟩
  · exact ⟨1024, by decide +kernel, by decide⟩

set_option maxRecDepth 100000 in
set_option maxHeartbeats 4000000 in
theorem lclauses_in (w : World) (op x y : Int) (kv : Value) (kids : List Lf) (hk : KidsIn kv kids) (hks : ∀ k ∈ kids, LayC w k) (hsm : Sml (.mk 0 0 op x y kv kids)) (hR : RF (.mk op x y (kids.map Lf.er))) (hsz : szF (.mk op x y (kids.map Lf.er)) + 1 ≤ 1048576) (bits : Int) :
    Calls Try.prog 5 #[.agg #[.int .i64 op, .int .i64 x, .int .i64 y, kv], .int .i64 bits] w fun e w' => e = .returned (.bool true) ∧ Below w.heap.size w w' := by
  have he : (Lf.mk 0 0 op x y kv kids).er = .mk op x y (kids.map Lf.er) := by rw [Lf.er]
  have B1 := Below.new w (.cells #[.int .i64 op, .int .i64 x, .int .i64 y, kv] 26)
  have LK : ∀ W, Below w.heap.size w W → ∀ k ∈ kids, LayC W k := fun W hB k hkk => (hks k hkk).kept hB
  have WL := wlt (.mk 0 0 op x y kv kids) _ hsm hk (LK _ B1)
  have GV : Hid (∀ W, Below w.heap.size w W → Calls Try.prog 6 #[.agg #[.int .i64 op, .int .i64 x, .int .i64 y, kv]] W fun e w' => ∃ v, e = .returned v ∧ FVal W.heap.size w' v (.mk op x y (kids.map Lf.er)) ∧ Below W.heap.size W w') := fun W hB => by
    have := gvt (.mk 0 0 op x y kv kids) W hsm hk (LK W hB)
    rw [he] at this
    exact this
  have SM : Hid (∀ (W : World) (v : Value), Below w.heap.size w W → FIs W v (.mk op x y (kids.map Lf.er)) → Calls Try.prog 8 #[v, .agg #[.int .i64 op, .int .i64 x, .int .i64 y, kv]] W fun e w' => e = .returned (.bool true) ∧ Below W.heap.size W w') := fun W v hB hv => same5_in W v _ hv (.mk 0 0 op x y kv kids) he hsm.szd hk (LK W hB)
  have RT : Hid (∀ (W : World), Below w.heap.size w W → Calls Try.prog 12 #[.agg #[.int .i64 op, .int .i64 x, .int .i64 y, kv], .slice none 0 0] W fun e w' => ∃ v', e = .returned v' ∧ w'.ownsRow W.heap.size 23 2 v' (ats (eqF (.mk op x y (kids.map Lf.er)))).length (pairC (ats (eqF (.mk op x y (kids.map Lf.er))))) ∧ Below W.heap.size W w') := fun W hB => by
    have h := rat (.mk 0 0 op x y kv kids) W W W.heap.size (.slice none 0 0) [] hsm (Nat.le_refl _) (Below.refl _ _) hk (LK W hB) (World.ownsRow_nil _ _ _ _) (by rw [he]; have := len_eqF (.mk op x y (kids.map Lf.er)); simp; omega) (Nat.le_refl _)
    rw [he, atsG_nil] at h
    refine h.mono ?_
    rintro e w' ⟨v', h1, h2, h3, _⟩
    exact ⟨v', h1, h2, ⟨h3.os, h3.tape, h3.output, h3.size, fun k hk => h3.block k hk (by simp [Value.ownBlock])⟩⟩
  have CT : Hid (WfF (.mk op x y (kids.map Lf.er)) → ∀ (W : World), Below w.heap.size w W → Calls Try.prog 15 #[.agg #[.int .i64 op, .int .i64 x, .int .i64 y, kv]] W fun e w' => e = .returned (.tuple #[.int .i64 ((Cn.cnt (.mk op x y (kids.map Lf.er))).1 : Int), .int .i64 ((Cn.cnt (.mk op x y (kids.map Lf.er))).2 : Int)]) ∧ Below W.heap.size W w') := fun hwf W hB => by
    have := ctt (.mk 0 0 op x y kv kids) W hsm (by rw [he]; exact hwf) (by rw [he]; omega) hk (LK W hB)
    rw [he] at this
    exact this
  have CA : Hid (WfF (.mk op x y (kids.map Lf.er)) → ∃ (ps : List (Int × Int)) (cs : List (List Int)) (n c1 c2 : Nat), ps = ats (eqF (.mk op x y (kids.map Lf.er))) ∧ Cn.cnt (.mk op x y (kids.map Lf.er)) = (c1, c2) ∧ ps.length ≤ n ∧ n ≤ c1 ∧ cs.length ≤ 4 * c2 + 2 ∧ c1 < 1048576 ∧ c2 ≤ c1 ∧
      (∀ (W : World) (v : Value), FIs W v (.mk op x y (kids.map Lf.er)) → Calls Try.prog 14 #[v] W fun e w' => ∃ ca cc, e = .returned (.tuple #[.slice ca cs.length cc, .int .i64 (n : Int)]) ∧ Cl2 w' ca cs ∧ Below W.heap.size W w') ∧
      (∀ (W : World) (ca : Option Addr) (cc : Nat), Cl2 W ca cs → Calls Try.prog 16 #[.int .i64 (n : Int), .slice ca cs.length cc] W fun e w' => e = .returned (.bool true) ∧ W = w') ∧
      (∀ (W : World) (ca : Option Addr) (cc : Nat) (pa : Option Addr) (pc : Nat) (bits : Int) (ka : Option Addr) (kn kc : Nat), kv = .slice ka kn kc → Below w.heap.size w W → Cl2 W ca cs → PrAt W pa ps → Calls Try.prog 17 #[.agg #[.int .i64 op, .int .i64 x, .int .i64 y, kv], .slice pa ps.length pc, .slice ca cs.length cc, .int .i64 (n : Int), .int .i64 bits] W fun e w' => e = .returned (.bool true) ∧ Below W.heap.size W w')) := fun hwf => by
    obtain ⟨ps, hps⟩ : ∃ ps, ps = ats (eqF (.mk op x y (kids.map Lf.er))) := ⟨_, rfl⟩
    obtain ⟨R, hRR⟩ : ∃ R, R = Cn.tse (numP ps) (.mk op x y (kids.map Lf.er)) (ps.length, []) := ⟨_, rfl⟩
    obtain ⟨ok, o1, o2, o3, o4, o5⟩ := cls_ok hwf (by omega) hps hRR
    refine ⟨ps, R.2.2 ++ [[R.1]], R.2.1, _, _, hps, rfl, o1, o2, o3, by omega, o5, fun W v hv => ClauseF_in W v _ hv hwf (by omega) hR ps hps (by omega) R hRR, fun W ca cc hc => good6_in W ca cc _ hc R.2.1 (by omega) ok, fun W ca cc pa pc bits ka kn kc hkv hB hc hp => ?_⟩
    have := agrees_in W (.mk 0 0 op x y kv kids) (by rw [he]; exact hwf) op x y ka kn kc ⟨rfl, rfl, rfl, hkv⟩ hk (LK W hB) pa pc ps hp ca cc _ hc R.2.1 ok bits (by omega) o1 (fun bs hb => by rw [he]; exact agree_plain hwf (by omega) hps hRR hb)
    rw [hkv]
    exact this
  have AL : ∀ W, Calls Try.prog 10 #[] W fun e w' => e = .returned (.bool true) ∧ Below W.heap.size W w' := alive5_any
  simp only [Lf.op, Lf.x, Lf.y, Lf.kv] at WL
  rw [he] at WL
  have Y1 := FB.new' w op x y kv
  obtain ⟨ka, kc, rfl, _⟩ := hk
  clear he hks LK hsm hR hsz
  generalize Fo.mk op x y (kids.map Lf.er) = f at *
  generalize kids.length = kn at *
  have Y1' : Hid _ := Y1
  obtain ⟨y0, y1, y2, y3⟩ := Y1
  go_enter Try.func5, Try.ntmps5
  go_wp2_with (first | (go_at_call 13; refine WL.mono ?_; rintro e w2 ⟨b, rfl, hwf, B2⟩; refine Aside.out ?_))
  delta Aside
  cases b with
  | false =>
    clear GV SM RT CT CA WL Y1'
    apply_assumption
    go_wp2_with (first | (go_at_call 10; refine (AL _).mono ?_; rintro e w3 ⟨rfl, B3⟩))
    go_ret
    exact ⟨rfl, (B1.trans (B2.mono B1.size)).trans (B3.mono (Nat.le_trans B1.size B2.size))⟩
  | true =>
    have hW := hwf rfl
    have BW2 : Below w.heap.size w w2 := B1.trans (B2.mono B1.size)
    have Z2 := FB.keep Y1'.out B2
    obtain ⟨ps, cs, n, c1, c2, hps, hcnt, o1, o2, o3, o4, o5, CL, GD, AG⟩ := CA.out hW
    have CT2 : Hid _ := CT.out hW
    rw [hcnt] at CT2
    rw [← hps] at RT
    have G2 := GV.out w2 BW2
    have Z2' : Hid _ := Z2
    obtain ⟨z0, z1, z2, z3⟩ := Z2
    have HC : Hid (_ ∧ _ ∧ _) := And.intro CL (And.intro GD AG)
    clear CA CT GV WL hwf hW hps hcnt y0 y1 y2 y3 CL GD AG Y1'
    apply_assumption
    go_wp2_with (first | (go_at_call 6; refine G2.mono ?_; rintro e w3 ⟨v, rfl, FV, B3⟩; obtain ⟨op2, x2, y2', ka2, kn2, kc2, rfl⟩ := FV.form; refine Aside.out ?_))
    delta Aside
    have B4 := Below.new w3 (.cells #[.int .i64 op2, .int .i64 x2, .int .i64 y2', .slice ka2 kn2 kc2] 31)
    have Y4 := FB.new w3 op2 x2 y2' (.slice ka2 kn2 kc2)
    have L4 : LfAt w (w3.alloc (.cells #[.int .i64 op2, .int .i64 x2, .int .i64 y2', .slice ka2 kn2 kc2] 31)) op x y (.slice ka kn kc) w3.heap.size op2 x2 y2' (.slice ka2 kn2 kc2) f := ⟨(BW2.trans (B3.mono BW2.size)).trans (B4.mono (Nat.le_trans BW2.size B3.size)), FB.keep (FB.keep Z2'.out B3) B4, Y4, FV.is.keep B4⟩
    have C4 := HC.out.1 _ _ L4.is
    obtain ⟨c0', c1', c2', c3'⟩ := L4.ib
    have HL4 : Hid _ := L4
    clear L4 Y4 B4 FV B3 G2 z0 z1 z2 z3 Z2' BW2 B2 B1
    apply_assumption
    go_wp2_with (first | (go_at_call 14; refine C4.mono ?_; rintro e w5 ⟨ca, cc, rfl, K5, B5⟩; refine Aside.out ?_))
    delta Aside
    have L5 : LcS w w5 op x y (.slice ka kn kc) w3.heap.size op2 x2 y2' (.slice ka2 kn2 kc2) f ca cs := ⟨HL4.out.keep B5, K5⟩
    have RT5 := RT.out w5 L5.lf.below
    obtain ⟨e0, e1, e2, e3⟩ := L5.lf.fb
    have HL5 : Hid _ := L5
    generalize w3.heap.size = xb at *
    clear L5 K5 B5 C4 c0' c1' c2' c3' HL4
    apply_assumption
    go_wp2_with (first | (go_at_call 12; refine RT5.mono ?_; rintro e w6 ⟨vp, rfl, R6, B6⟩; obtain ⟨pa, pc, hvp⟩ := row_form R6; subst hvp; refine Aside.out ?_))
    delta Aside
    have L6 := LcS.keep HL5.out B6
    have P6 := pr_of R6
    have CT6 := CT2.out w6 L6.lf.below
    obtain ⟨g0, g1, g2, g3⟩ := L6.lf.fb
    have HL6 : Hid (_ ∧ _) := And.intro L6 P6
    clear L6 P6 R6 B6 RT5 e0 e1 e2 e3 HL5
    apply_assumption
    go_wp2_with (first | (go_at_call 15; refine CT6.mono ?_; rintro e w7 ⟨rfl, B7⟩; refine Aside.out ?_))
    delta Aside
    have L7 := LcS.keep HL6.out.1 B7
    have P7 := PrAt.below B7 HL6.out.2
    have SM7 := SM.out w7 _ L7.lf.below L7.lf.is
    obtain ⟨g0', g1', g2', g3'⟩ := L7.lf.fb
    obtain ⟨c0', c1', c2', c3'⟩ := L7.lf.ib
    have HL7 : Hid (_ ∧ _) := And.intro L7 P7
    clear L7 P7 B7 CT6 g0 g1 g2 g3 HL6
    apply_assumption
    go_wp2_with (first | (go_at_call 8; refine SM7.mono ?_; rintro e w8 ⟨rfl, B8⟩; refine Aside.out ?_))
    delta Aside
    have L8 := LcS.keep HL7.out.1 B8
    have P8 := PrAt.below B8 HL7.out.2
    have GD8 := HC.out.2.1 w8 ca cc L8.cl
    obtain ⟨g0, g1, g2, g3⟩ := L8.lf.fb
    have HL8 : Hid (_ ∧ _) := And.intro L8 P8
    clear L8 P8 B8 SM7 HL7 c0' c1' c2' c3' g0' g1' g2' g3'
    have d1 : decide ((n : Int) < (ps.length : Int)) = false := decide_eq_false (by omega)
    have d1n : decide (n < ps.length) = false := decide_eq_false (by omega)
    have w1 : IntKind.i64.wrap ((c1 : Int) + 1) = (c1 : Int) + 1 := by rw [IntKind.wrap_i64]; omega
    have d2 : decide ((c1 : Int) + 1 < (n : Int)) = false := decide_eq_false (by omega)
    have w2' : IntKind.i64.wrap (4 * (c2 : Int)) = 4 * (c2 : Int) := by rw [IntKind.wrap_i64]; omega
    have w3' : IntKind.i64.wrap (4 * (c2 : Int) + 2) = 4 * (c2 : Int) + 2 := by rw [IntKind.wrap_i64]; omega
    have d3 : decide (4 * (c2 : Int) + 2 < (cs.length : Int)) = false := decide_eq_false (by omega)
    by_cases h10 : 10 < ps.length
    · have d4 : decide ((10 : Int) < (ps.length : Int)) = true := decide_eq_true (by omega)
      have A8 := HC.out.2.2 w8 ca cc pa pc bits ka kn kc rfl HL8.out.1.lf.below HL8.out.1.cl HL8.out.2
      apply_assumption
      go_wp2_with (first | (go_at_call 16; refine GD8.mono ?_; rintro e w9 ⟨rfl, rfl⟩) | (go_at_call 17; refine A8.mono ?_; rintro e w10 ⟨rfl, B10⟩) | (go_at_call 10; refine (AL _).mono ?_; rintro e w11 ⟨rfl, B11⟩))
      go_ret
      exact ⟨rfl, (HL8.out.1.lf.below.trans (B10.mono HL8.out.1.lf.below.size)).trans (B11.mono (Nat.le_trans HL8.out.1.lf.below.size B10.size))⟩
    · have d4 : decide ((10 : Int) < (ps.length : Int)) = false := decide_eq_false (by omega)
      obtain ⟨M, hM, hM2⟩ := pow_small h10
      have HM : Hid _ := hM
      clear hM
      apply_assumption
      go_wp2_with (first | (go_at_call 16; refine GD8.mono ?_; rintro e w9 ⟨rfl, rfl⟩))
      go_loopw [15] (fun t15 W => ∃ b : Nat, b ≤ M ∧ t15 = .int .i64 (b : Int) ∧ Hid (LcS w W op x y (.slice ka kn kc) xb op2 x2 y2' (.slice ka2 kn2 kc2) f ca cs ∧ PrAt W pa ps)) (fun t15 _ => M - (intOf t15).toNat)
      case atStart => exact ⟨0, by omega, rfl, HL8.out⟩
      case round =>
        obtain ⟨b, hb, rfl, HB⟩ := hrel
        have A8 := HC.out.2.2 wr ca cc pa pc b ka kn kc rfl HB.out.1.lf.below HB.out.1.cl HB.out.2
        obtain ⟨k0, k1, k2, k3⟩ := HB.out.1.lf.fb
        clear HL8 GD8 g0 g1 g2 g3 HC RT CT2 SM
        by_cases hbM : b < M
        · have db : decide ((b : Int) < wrap64 ((2 : Int) ^ ps.length)) = true := decide_eq_true (by rw [HM.out]; omega)
          have wrp : IntKind.i64.wrap ((b : Int) + 1) = (b : Int) + 1 := by rw [IntKind.wrap_i64]; omega
          go_wp2_with (first | (go_at_call 17; refine A8.mono ?_; rintro e w10 ⟨rfl, B10⟩))
          exact ⟨⟨b + 1, by omega, by simp, LcS.keep HB.out.1 B10, PrAt.below B10 HB.out.2⟩, by simp [intOf]; omega⟩
        · have db : decide ((b : Int) < wrap64 ((2 : Int) ^ ps.length)) = false := decide_eq_false (by rw [HM.out]; omega)
          clear A8
          go_wp2_with (first | (go_at_call 10; refine (AL _).mono ?_; rintro e w11 ⟨rfl, B11⟩))
          go_ret
          exact ⟨rfl, HB.out.1.lf.below.trans (B11.mono HB.out.1.lf.below.size)⟩

end Go.Proofs.Ytinphcnknionmab

namespace Go.Proofs.Ytinphcnknionmab
open Go.ChangeShapes Go.WideShapes Go.ChangeAt Go.RowKit Go.Deep

theorem own5 : ownKnob Try.prog.godebug = none := by kernel_rfl
theorem laid5 : laidOutB Try.prog = true := by kernel_rfl

theorem agg_of {v : Value} {a b c d : Value} (h : v.cells.toList = [a, b, c, d]) : v = .agg #[a, b, c, d] := by
  cases v <;> simp [Value.cells] at h
  rename_i cs
  congr 1
  apply Array.ext'
  simpa using h

theorem bulk_two {H : Type} {d0 d1 : DataW H} (hk : Rows.uptoSmall H [d0, d1] = true) : Rows.uptoBulk d0 + Rows.uptoBulk d1 ≤ 1048576 := by
  have h : Rows.uptoBulkAll [d0, d1] ≤ 1048576 := of_decide_eq_true hk
  simp only [Rows.uptoBulkAll] at h
  omega

set_option maxRecDepth 100000 in
theorem LogicClauses_contract (H : Type) (enc : TypeId × Value → H) (W : World) (base : Nat) (args : Array Value) (ds gs : List (DataW H)) (before : List MemPlace)
    (hval : ∀ (j : Nat) t v, Try.f5.params[j]? = some t → args[j]? = some v → Value.okWide Try.prog W .any base t v)
    (hW : DataW.Whole enc Try.prog Try.f5.params.toList Rows.logicClausesSpec.vars false W args.toList ds gs before) (hk : Rows.uptoSmall H (ds ++ gs) = true) :
    Calls Try.prog 5 args W fun e W' => ∃ v, e = .returned v ∧ Rows.logicClausesSpec.post enc Try.prog Try.f5 false true false false W args v W' := by
  have hW' := hW
  obtain ⟨p, q, hA0, hV, rfl, hfz, hnd⟩ := hW
  have hA : DataW.TrodAll enc Try.prog W 0 (fun _ => true) true Try.f5.params.toList args.toList ds p := hA0
  rw [Try.params5] at hA hval
  obtain ⟨v0, vs0, d0, ds0, p0, q0, hargs, rfl, rfl, h0, r0⟩ := trodAll_cons hA
  obtain ⟨v1, vs1, d1, ds1, p1, q1, rfl, rfl, rfl, h1, r1⟩ := trodAll_cons r0
  obtain ⟨rfl, rfl, rfl⟩ := trodAll_nil r1
  obtain rfl : args = #[v0, v1] := by cases args; simp_all
  obtain ⟨rfl, rfl⟩ := trodVars_none hV
  obtain ⟨bits, rfl⟩ := okWide_int Try.underlying3 (hval 1 3 v1 rfl rfl)
  have lt0 : ∀ x ∈ p0, x.block < W.heap.size := by obtain ⟨m, hm⟩ := h0; exact DataW.trod_lt m _ _ _ hm
  have lt1 : ∀ x ∈ p1, x.block < W.heap.size := by obtain ⟨m, hm⟩ := h1; exact DataW.trod_lt m _ _ _ hm
  simp only [List.append_nil] at hW' hk
  have hb := bulk_two hk
  obtain ⟨fuel, hf⟩ := h0
  obtain ⟨op, x, y, kv, kids, hcs, f1, f2, f3, f4, f5, f6⟩ := formR_at _ d0 (Nat.le_refl _) (by omega) fuel _ _ hf
  have hv0 := agg_of hcs
  subst hv0
  clear hA0 hA
  refine (lclauses_in W op x y kv kids f1 f2 (.mk (by omega) f3) f5 (by omega) bits).mono fun e W' ⟨he, bel⟩ => ?_
  subst he
  exact ⟨_, rfl, _, _, _, [], _, [], hW', trodAll_mk1 (shut_bool Try.underlying4 _), (trodAll_cons_mk (Below.trod laid5 (by kernel_rfl) (of_decide_eq_true (by kernel_rfl)) ⟨fuel, hf⟩ bel lt0) (trodAll_cons_mk (Below.trod laid5 (by kernel_rfl) (of_decide_eq_true (by kernel_rfl)) h1 bel lt1) trodAll_mk0)), rfl, bel.frame _, fun h => by cases h⟩

set_option maxRecDepth 100000 in
theorem LogicClauses_lifted (os : Os) (started : os.Started) (H : Type) (enc : TypeId × Value → H) (F : Stop.Interp) :
    ReturnsInHanded {} Try.checked os 5 .any ((Rows.OpenSpec.upto Rows.logicClausesSpec).pre6 enc Try.prog Try.f5 Rows.logicClausesUptoRow.domain false) (((Rows.OpenSpec.upto Rows.logicClausesSpec).at F).post enc Try.prog Try.f5 false true false false) := by
  refine returnsInHanded_of_cond (C := Try.checked) (s := Rows.OpenSpec.upto Rows.logicClausesSpec) (k := Rows.uptoSmall) rfl own5 started (by kernel_rfl) Try.func5
    (OpenSpec.witness (enc := enc) (C := Try.checked) (s := Rows.OpenSpec.upto Rows.logicClausesSpec) (k := Rows.uptoSmall) rfl false ⟨#[], #[.agg #[.int .i64 0, .int .i64 0, .int .i64 0, .slice none 0 0], .int .i64 0], []⟩ 8 (by kernel_rfl) (by kernel_rfl) (by kernel_rfl)
      (x := ([.agg [.lit (.int .i64 0), .agg [.lit (.int .i64 0), .lit (.int .i64 0)], .nil], .lit (.int .i64 0)], [], [])) (by kernel_rfl) rfl (by kernel_rfl)) ?_
  intro W base args ds gs before hval hW _ hk _
  exact LogicClauses_contract H enc W base args ds gs before hval hW hk

theorem LogicClauses_upto : Rows.LogicClausesUptoSaid :=
  OpenClaim.holds_of_cond 5 Try.f5 rfl rfl rfl rfl rfl rfl rfl ⟨rfl, rfl, rfl, rfl, rfl⟩ rfl rfl rfl rfl rfl (by kernel_rfl) Try.func5 (by kernel_rfl)
    (of_decide_eq_true (by kernel_rfl)) (by unfold Func.isWrapper; first | (rw [if_pos (by decide +kernel)]; kernel_rfl) | (rw [if_neg (by decide +kernel)]; exact ⟨rfl, rfl⟩))
    (fun os started H enc _ F => LogicClauses_lifted os started H enc F)
#print axioms LogicClauses_upto

end Go.Proofs.Ytinphcnknionmab
