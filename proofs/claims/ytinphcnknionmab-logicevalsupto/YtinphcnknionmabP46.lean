/- LogicEvals: what came in, and its walk up to the loop. LogicEvals: its walk. -/
import Derived.Test.YtinphcnknionmabFoR
import Derived.Test.YtinphcnknionmabGvB
import Derived.Test.YtinphcnknionmabP18
import Derived.Test.YtinphcnknionmabP45
namespace Go.Proofs.Ytinphcnknionmab
open Go.ChangeShapes Go.WideShapes Go.ChangeAt Go.RowKit Go.Deep Go.Maps

set_option maxRecDepth 100000 in
theorem ints_at5 {H : Type} {enc : TypeId × Value → H} {W : World} {base : Nat} {spare : Nat → Bool} {held : Bool} {a : Option Addr} {len cap : Nat} {d : DataW H} {p : List MemPlace}
    (h : DataW.Trod enc Try.prog W base spare held 27 (.slice a len cap) d p) : ∃ cls : List Int, cls.length = len ∧ ClsAt W a cls ∧ len ≤ Rows.uptoBulk d ∧ (a = none → cls = [] ∧ cap = 0) := by
  obtain ⟨fuel, hf⟩ := h
  rcases open_slice1 Try.underlying27 cellsRI hf with ⟨hcs, _⟩ | ⟨x, l, c, m, n, V, D, Pl, hcs, _, hl, hm, hmm, hd, hx⟩
  · simp [Value.cells] at hcs
    obtain ⟨rfl, rfl, rfl⟩ := hcs
    exact ⟨[], rfl, Or.inl rfl, Nat.zero_le _, fun _ => ⟨rfl, rfl⟩⟩
  · simp [Value.cells] at hcs
    obtain ⟨rfl, rfl, rfl⟩ := hcs
    have hlm : len ≤ m := by rw [hmm]; split <;> omega
    have hbk : len ≤ Rows.uptoBulk d := by
      have hd1 : d = .slice ((List.range len).map D) ((List.range (m - len)).map fun j => D (len + j)) := (Prod.mk.inj hd).1
      rw [hd1]
      simp only [Rows.uptoBulk]
      have : ∀ l : List (DataW H), l.length ≤ Rows.uptoBulkAll l := by
        intro l
        induction l with
        | nil => simp
        | cons x r ih =>
          simp only [Rows.uptoBulkAll, List.length_cons]
          have : 1 ≤ Rows.uptoBulk x := by
            cases x with
            | lit l => cases l <;> simp [Rows.uptoBulk]
            | nil => simp [Rows.uptoBulk]
            | ptr d => simp [Rows.uptoBulk]
            | slice elems spare => simp [Rows.uptoBulk]
            | agg parts => simp [Rows.uptoBulk]
            | iface t d => simp [Rows.uptoBulk]
            | map entries => simp [Rows.uptoBulk]
            | held h => simp [Rows.uptoBulk]
          omega
      have := this ((List.range len).map D)
      simp at this
      omega
    have each : ∀ i, i < len → ∃ z : Int, W.cell? (x.add i) = some (.int .i64 z) := by
      intro i hi
      obtain ⟨h1, h2⟩ := hx i (by omega)
      obtain ⟨z, e, _, _⟩ := DataW.trod_int Try.underlying3 h2
      simp at e
      exact ⟨z, by rw [h1, e]⟩
    obtain ⟨q, hq⟩ := choose_lt each
    refine ⟨(List.range len).map q, by simp, ?_, hbk, ?_⟩
    · by_cases h0 : len = 0
      · subst h0; exact Or.inl rfl
      · obtain ⟨xb, xo, xs⟩ := x
        have hsp : xs = none := by
          have := World.cell?_spot (hq 0 (by omega))
          simpa [Addr.add] using this
        subst hsp
        refine Or.inr ⟨xb, xo, rfl, fun j c hj => ?_⟩
        have hj' : j < len := by
          have := (List.getElem?_eq_some_iff.1 hj).1
          simpa using this
        have hc : c = q j := by simp [hj'] at hj; exact hj.symm
        subst hc
        have := hq j hj'
        rw [add_plain] at this
        exact this
    · intro h; cases h

theorem infoIntL : (Try.prog.info? 3).map (fun i => (i.zero, i.size, i.bytes)) = some (some (.int .i64 0), 1, 8) := by kernel_rfl
def clsC (l : List Int) : List Value := l.map fun c => Value.int .i64 c

/-- append(nil, classes...): a copy. -/
theorem app_copy (w : World) (ty : TypeId) (ca : Option Addr) (cc : Nat) (cls : List Int) (hc : ClsAt w ca cls) (hcl : cls.length ≤ 1048576) (hca : ca = none → cls = [] ∧ cc = 0) :
    ∃ ob oc w', (Builtin.append_ #[27, 27] ty #[.slice none 0 0, .slice ca cls.length cc]).run Try.prog w = .ok (.slice ob cls.length oc) w' ∧ ClsAt w' ob cls ∧ Below w.heap.size w w' ∧ cls.length ≤ oc := by
  cases ca with
  | none =>
    obtain ⟨rfl, rfl⟩ := hca rfl
    refine ⟨none, 0, w, ?_, Or.inl rfl, Below.refl _ _, Nat.le_refl _⟩
    simp [Builtin.append_, run_underlying Try.underlying27, go_sem, Result.andThen]
  | some ad =>
    obtain ⟨i0, hi0, hz0, hz1, hz2⟩ := info_parts infoIntL
    have hnews : ∀ j u, (clsC cls)[j]? = some u → w.cell? (ad.add j) = some u := by
      intro j u hj
      simp only [clsC, List.getElem?_map] at hj
      obtain ⟨c, hj', rfl⟩ := Option.map_eq_some_iff.1 hj
      clear hj
      rcases hc with e | ⟨g, off, h1, h2⟩
      · rw [e] at hj'; simp at hj'
      · simp at h1
        subst h1
        rw [add_plain]
        exact h2 j c hj'
    obtain ⟨v', w', hr, h2, h3, _, _⟩ := run_append_own_at (P := Try.prog) w w.heap.size 27 ty 3 i0 (.int .i64 0) 1 8 Try.underlying27 hi0 hz0 hz1 hz2 rfl (by decide) (.slice none 0 0) 0 [] (World.ownsRow_nil _ _ _ _) ad cls.length cc (clsC cls) (by simp [clsC]) hnews (by
      intro u hu
      obtain ⟨c, _, rfl⟩ := List.mem_map.1 hu
      rfl) (by unfold maxLen; omega) (by omega) (Nat.le_refl _)
    rw [Nat.zero_add, List.nil_append] at h2
    have hB : Below w.heap.size w w' := ⟨h3.os, h3.tape, h3.output, h3.size, fun k hk => h3.block k hk (by simp [Value.ownBlock])⟩
    rcases h2.2 with ⟨e, h0⟩ | ⟨g, cap, cur, e, e1, e2, e3, _⟩
    · have hn : cls = [] := List.length_eq_zero_iff.1 h0
      subst hn
      exact ⟨none, 0, w', by rw [hr, e]; rfl, Or.inl rfl, hB, Nat.le_refl _⟩
    · subst e
      have hcell := h2.cellAt
      refine ⟨some ⟨g, 0, none⟩, cap, w', hr, Or.inr ⟨g, 0, rfl, fun j c hj => ?_⟩, hB, e3⟩
      have := hcell j (by have := (List.getElem?_eq_some_iff.1 hj).1; simpa using this)
      rw [Nat.zero_add, this]
      simp [clsC, hj]

/-- A call of a builtin by what it comes to. -/
theorem wpList_append_eq {P : Program} (w : World) {ops : Array Oper} {rest : List Oper} {o : Oper} {a : Act} {Q : Exit → Act → World → Prop} (hgd : o.guard = none) (s x : Operand) (t : TypeId)
    (ho : o.op = .call { callee := .builtin .append, args := #[s, x], argTypes := #[t, t] }) (v u v' : Value) (hs : a.eval s = v) (hx : a.eval x = u) (w' : World) (hr : (Builtin.append_ #[t, t] o.type #[v, u]).run P w = .ok v' w') (h : wpList P ops Q rest (a.put o.dst v') w') :
    wpList P ops Q (o :: rest) a w := by
  refine wpList_plain hgd fun K hK => ?_
  unfold Oper.wp execOp
  simp only [ho, resolve, invoke, builtin, Sem.run_bind, Sem.run_pure, Result.andThen_ok, List.map_toArray, List.map_cons, List.map_nil, hs, hx, hr]
  exact hK _ _ h

theorem FB.new' (W : World) (op x y : Int) (kv : Value) : FB (W.alloc (.cells #[.int .i64 op, .int .i64 x, .int .i64 y, kv] 26)) W.heap.size op x y kv := by
  have hn := made_row W #[.int .i64 op, .int .i64 x, .int .i64 y, kv] 26
  exact ⟨hn.cell (i := 0) (by simp), hn.cell (i := 1) (by simp), hn.cell (i := 2) (by simp), hn.cell (i := 3) (by simp)⟩
theorem LayA.layC {A : Nat → Prop} {W : World} {t : Lf} (h : LayA A W t) : LayC W t := by
  induction h with
  | mk _ hc hk _ ih => exact .mk hc.c0 hc.c1 hc.c2 hc.c3 hk ih
theorem szd_er {u : Lf} (h : Szd u) : ∀ t : Lf, t.er = u.er → Szd t := by
  induction h with
  | mk hn _ ih =>
    intro t ht
    obtain ⟨b, o, op, x, y, kv, kids⟩ := t
    rename_i b2 o2 op2 x2 y2 kv2 kids2 _
    rw [Lf.er, Lf.er] at ht
    injection ht with _ _ _ hm
    have hl : kids.length = kids2.length := by have := congrArg List.length hm; simpa using this
    refine .mk (by omega) (fun k hk => ?_)
    have hm1 : k.er ∈ kids.map Lf.er := List.mem_map.2 ⟨k, hk, rfl⟩
    rw [hm] at hm1
    obtain ⟨k2, hk2, e2⟩ := List.mem_map.1 hm1
    exact ih k2 hk2 k e2.symm

/-- law05's Same of a Form of the program's and the document's. -/
theorem same5_in (w : World) (v : Value) (f : Fo) (hv : FIs w v f) (u : Lf) (hu : u.er = f) (hs : Szd u) (hk : KidsIn u.kv u.kids) (hks : ∀ k ∈ u.kids, LayC w k) :
    Calls Try.prog 8 #[v, .agg #[.int .i64 u.op, .int .i64 u.x, .int .i64 u.y, u.kv]] w fun e w' => e = .returned (.bool true) ∧ Below w.heap.size w w' := by
  obtain ⟨op, x, y, kv, kids, rfl, h1, h2, h3⟩ := hv
  have he : (Lf.mk 0 0 op x y kv kids).er = u.er := by rw [Lf.er, hu, h3]
  exact smt (.mk 0 0 op x y kv kids) u w he (szd_er hs _ he) h1 (fun k hkk => (h2 k hkk).layC) hk hks

end Go.Proofs.Ytinphcnknionmab

namespace Go.Proofs.Ytinphcnknionmab
open Go.RowKit Go.Maps

/-- What is known between two calls. -/
structure LeAt (w W : World) (op x y : Int) (kv : Value) (ca : Option Addr) (cls : List Int) (xb : Nat) (op2 x2 y2 : Int) (kv2 : Value) (f : Fo) (ob : Option Addr) : Prop where
  below : Below w.heap.size w W
  fb : FB W w.heap.size op x y kv
  ib : FB W xb op2 x2 y2 kv2
  is : FIs W (.agg #[.int .i64 op2, .int .i64 x2, .int .i64 y2, kv2]) f
  own : ClsAt W ob cls
theorem LeAt.keep {w W W' : World} {op x y : Int} {kv : Value} {ca : Option Addr} {cls : List Int} {xb : Nat} {op2 x2 y2 : Int} {kv2 : Value} {f : Fo} {ob : Option Addr} (h : LeAt w W op x y kv ca cls xb op2 x2 y2 kv2 f ob) (hB : Below W.heap.size W W') : LeAt w W' op x y kv ca cls xb op2 x2 y2 kv2 f ob :=
  ⟨h.below.trans (hB.mono h.below.size), h.fb.keep hB, h.ib.keep hB, h.is.keep hB, h.own.below hB⟩

set_option maxRecDepth 100000 in
set_option maxHeartbeats 4000000 in
theorem evals_in (w : World) (op x y : Int) (kv : Value) (kids : List Lf) (hk : KidsIn kv kids) (hks : ∀ k ∈ kids, LayC w k) (hsm : Sml (.mk 0 0 op x y kv kids)) (hR : RF (.mk op x y (kids.map Lf.er))) (hsz : szF (.mk op x y (kids.map Lf.er)) ≤ 1048576) (ca : Option Addr) (cc : Nat) (cls : List Int) (hc : ClsAt w ca cls) (hcl : cls.length ≤ 1048576) (hca : ca = none → cls = [] ∧ cc = 0) :
    Calls Try.prog 3 #[.agg #[.int .i64 op, .int .i64 x, .int .i64 y, kv], .slice ca cls.length cc] w fun e w' => e = .returned (.bool true) ∧ Below w.heap.size w w' := by
  have he : (Lf.mk 0 0 op x y kv kids).er = .mk op x y (kids.map Lf.er) := by rw [Lf.er]
  have B1 := Below.new w (.cells #[.int .i64 op, .int .i64 x, .int .i64 y, kv] 26)
  have LK : ∀ W, Below w.heap.size w W → ∀ k ∈ kids, LayC W k := fun W hB k hkk => (hks k hkk).kept hB
  have GV := gvt (.mk 0 0 op x y kv kids) _ hsm hk (LK _ B1)
  have SM : ∀ (W : World) (v : Value), Below w.heap.size w W → FIs W v (.mk op x y (kids.map Lf.er)) → Calls Try.prog 8 #[v, .agg #[.int .i64 op, .int .i64 x, .int .i64 y, kv]] W fun e w' => e = .returned (.bool true) ∧ Below W.heap.size W w' := fun W v hB hv => same5_in W v _ hv (.mk 0 0 op x y kv kids) he hsm.szd hk (LK W hB)
  have RE : ∀ (W : World), Below w.heap.size w W → Calls Try.prog 9 #[.agg #[.int .i64 op, .int .i64 x, .int .i64 y, kv], .slice ca cls.length cc] W fun e w' => e = .returned (.bool (evF cls (.mk op x y (kids.map Lf.er)))) ∧ Below W.heap.size W w' := fun W hB => by
    have hcW : ClsAt W ca cls := by
      rcases hc with e | ⟨g, off, h1, h2⟩
      · exact Or.inl e
      · exact Or.inr ⟨g, off, h1, fun j c hj => (hB.cell (World.block_lt_of_cell? w _ (h2 j c hj))).trans (h2 j c hj)⟩
    have h := reval (.mk 0 0 op x y kv kids) W ca cc cls hcW hk (LK W hB)
    rw [he] at h
    exact h
  have EV : ∀ (W : World) (v : Value) (ob : Option Addr) (oc : Nat), FIs W v (.mk op x y (kids.map Lf.er)) → ClsAt W ob cls → Calls Try.prog 7 #[v, .slice ob cls.length oc] W fun e w' => e = .returned (.bool (evF cls (.mk op x y (kids.map Lf.er)))) ∧ Below W.heap.size W w' := fun W v ob oc hv ho => evalF_in W v _ hv ob cls.length oc cls rfl ho (by omega) (by omega) hR
  have CC : Hid (∀ (W : World), Below w.heap.size w W → ClsAt W ca cls) := fun W hB => by
    rcases hc with e | ⟨g, off, h1, h2⟩
    · exact Or.inl e
    · exact Or.inr ⟨g, off, h1, fun j c hj => (hB.cell (World.block_lt_of_cell? w _ (h2 j c hj))).trans (h2 j c hj)⟩
  simp only [Lf.op, Lf.x, Lf.y, Lf.kv] at GV
  rw [he] at GV
  have Y1 := FB.new' w op x y kv
  obtain ⟨ka, kc, rfl, _⟩ := hk
  clear he hks LK hsm hc
  generalize Fo.mk op x y (kids.map Lf.er) = f at *
  generalize kids.length = kn at *
  obtain ⟨y0, y1, y2, y3⟩ := Y1
  go_enter Try.func3, Try.ntmps3
  go_wp2_with (first | (go_at_call 6; refine GV.mono ?_; rintro e w2 ⟨v, rfl, FV, B2⟩; obtain ⟨op2, x2, y2', ka2, kn2, kc2, rfl⟩ := FV.form) | (at_builtin; refine Aside.out ?_))
  delta Aside
  have B3 := Below.new w2 (.cells #[.int .i64 op2, .int .i64 x2, .int .i64 y2', .slice ka2 kn2 kc2] 31)
  have Y3 := FB.new w2 op2 x2 y2' (.slice ka2 kn2 kc2)
  have Z3 := (FB.keep (And.intro y0 (And.intro y1 (And.intro y2 y3))) B2).keep B3
  have FV3 := FV.is.keep B3
  have BW3 : Below w.heap.size w (w2.alloc (.cells #[.int .i64 op2, .int .i64 x2, .int .i64 y2', .slice ka2 kn2 kc2] 31)) := (B1.trans (B2.mono B1.size)).trans (B3.mono (Nat.le_trans B1.size B2.size))
  generalize w2.alloc (.cells #[.int .i64 op2, .int .i64 x2, .int .i64 y2', .slice ka2 kn2 kc2] 31) = w3 at B3 Y3 Z3 FV3 BW3 ⊢
  generalize w2.heap.size = xb at *
  obtain ⟨ob, oc, w4, hr4, hO4, B4, hoc⟩ := app_copy w3 27 ca cc cls (CC.out w3 BW3) hcl hca
  have L4 : LeAt w w4 op x y (.slice ka kn kc) ca cls xb op2 x2 y2' (.slice ka2 kn2 kc2) f ob := ⟨BW3.trans (B4.mono BW3.size), Z3.keep B4, Y3.keep B4, FV3.keep B4, hO4⟩
  refine wpList_append_eq _ rfl _ _ 27 rfl _ _ _ rfl rfl _ hr4 ?_
  clear hr4 hO4 B4 FV3 Z3 Y3 B3 BW3 GV B1 B2 FV y0 y1 y2 y3
  have EV4 := EV w4 _ ob oc L4.is L4.own
  obtain ⟨c0, c1, c2, c3⟩ := L4.ib
  have HS : Hid (_ ∧ _ ∧ _) := And.intro SM (And.intro RE L4)
  clear EV L4 SM RE
  generalize evF cls f = vb at *
  go_wp2_with (first | (go_at_call 7; refine EV4.mono ?_; rintro e w5 ⟨rfl, B5⟩; have L5 := HS.out.2.2.keep B5; obtain ⟨d0, d1, d2, d3⟩ := L5.ib; obtain ⟨e0, e1, e2, e3⟩ := L5.fb; have SM5 := HS.out.1 w5 _ L5.below L5.is) | (go_at_call 8; refine SM5.mono ?_; rintro e w6 ⟨rfl, B6⟩))
  have L6 := (HS.out.2.2.keep B5).keep B6
  clear B5 B6 SM5 d0 d1 d2 d3 e0 e1 e2 e3 L5 EV4 c0 c1 c2 c3
  go_loopw [8, 9] (fun t8 t9 W => ∃ k : Nat, k ≤ cls.length ∧ t8 = .bool true ∧ t9 = .int .i64 (k : Int) ∧ Hid (LeAt w W op x y (.slice ka kn kc) ca cls xb op2 x2 y2' (.slice ka2 kn2 kc2) f ob)) (fun _ t9 _ => cls.length - (intOf t9).toNat)
  case atStart => exact ⟨0, by omega, rfl, rfl, L6⟩
  case round =>
    obtain ⟨k, hk, rfl, rfl, LW⟩ := hrel
    by_cases hk2 : k < cls.length
    · have dk : decide ((k : Int) < (cls.length : Int)) = true := decide_eq_true (by omega)
      have hck : cls[k]? = some cls[k] := List.getElem?_eq_getElem hk2
      have hne : cls ≠ [] := by intro e; rw [e] at hk2; simp at hk2
      obtain ⟨g1, o1, rfl, q1⟩ : ∃ g off, ob = some ⟨g, off, none⟩ ∧ ∀ (j : Nat) (c : Int), cls[j]? = some c → wr.cell? ⟨g, off + j, none⟩ = some (.int .i64 c) := LW.out.own.resolve_left hne
      obtain ⟨g2, o2, rfl, q2⟩ : ∃ g off, ca = some ⟨g, off, none⟩ ∧ ∀ (j : Nat) (c : Int), cls[j]? = some c → wr.cell? ⟨g, off + j, none⟩ = some (.int .i64 c) := (CC.out wr LW.out.below).resolve_left hne
      have z1 := q1 k _ hck
      have z2 := q2 k _ hck
      generalize cls[k] = ck at *
      have wrp : IntKind.i64.wrap ((k : Int) + 1) = (k : Int) + 1 := by rw [IntKind.wrap_i64]; omega
      have LD : ∀ m, Hid (LeAt w (wr.drewN m) op x y (.slice ka kn kc) (some ⟨g2, o2, none⟩) cls xb op2 x2 y2' (.slice ka2 kn2 kc2) f (some ⟨g1, o1, none⟩)) := fun m => LW.out.keep ⟨rfl, rfl, rfl, Nat.le_refl _, fun _ _ => rfl⟩
      clear q1 q2 hck hne HS CC L6
      go_wp2_with fail
      go_quiet (fail)
      go_wp2_with fail
      exact ⟨⟨k + 1, hk2, rfl, by simp, LD _⟩, by simp [intOf]; omega⟩
    · have dk : decide ((k : Int) < (cls.length : Int)) = false := decide_eq_false (by omega)
      obtain ⟨e0, e1, e2, e3⟩ := LW.out.fb
      have RE := HS.out.2.1 wr LW.out.below
      have Bw := LW.out.below
      have AL : ∀ W, Calls Try.prog 10 #[] W fun e w' => e = .returned (.bool true) ∧ Below W.heap.size W w' := alive5_any
      clear HS CC L6
      go_wp2_with (first | (go_at_call 9; refine RE.mono ?_; rintro e w7 ⟨rfl, B7⟩) | (go_at_call 10; refine (AL _).mono ?_; rintro e w8 ⟨rfl, B8⟩))
      go_ret
      exact ⟨rfl, (Bw.trans (B7.mono Bw.size)).trans (B8.mono (Nat.le_trans Bw.size B7.size))⟩

end Go.Proofs.Ytinphcnknionmab
