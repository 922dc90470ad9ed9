/- Package logic: steps. -/
import Derived.Test.YtlehlgipbhfioaaGreatP27
import Derived.Test.YtlehlgipbhfioaaGreatP19
import Derived.RangeFuncBox
namespace Go.Proofs.YtlehlgipbhfioaaGreat
open Go.RowKit Go.Shelf

attribute [local go_sem] Oper.semAt_some

/-- What a walk through a formula relies on. -/
def WTy (t : TypeId) : Prop := t = 335 ∨ t = 36 ∨ t = 161 ∨ t = 243 ∨ t = 241
def encS (x : Lf × Nat) : Array Value := #[.pointer (some ⟨x.1.b, x.1.o, none⟩), .int .i64 (x.2 : Int)]
def stepC (ws : List (Lf × Nat)) : List Value := ws.flatMap fun x => [.pointer (some ⟨x.1.b, x.1.o, none⟩), .int .i64 (x.2 : Int)]

set_option maxHeartbeats 1000000 in
theorem steps_in (w : World) (a : Option Addr) :
    Calls Tryz.prog 196 #[.pointer a] w fun e w' => e = .returned (.func (.func 234) #[] #[.pointer (some ⟨w.heap.size, 0, none⟩)]) ∧ w' = w.alloc (.cells #[.pointer a] 161) := by
  go_enter Tryz.func196, Tryz.ntmps196
  go_wp2
  go_ret
  exact ⟨rfl, rfl⟩

theorem stepC_len (ws : List (Lf × Nat)) : (stepC ws).length = ws.length * 2 := by
  induction ws with
  | nil => rfl
  | cons x ws ih => simp [stepC] at ih ⊢; omega
theorem stepC_app (a b : List (Lf × Nat)) : stepC (a ++ b) = stepC a ++ stepC b := by simp [stepC]

theorem Kr.fkeep {B : Nat} {W W' : World} (K : Kr WTy B W W') : FKeep 0 W W' := fun k c fz _ h => K.same k _ h (Or.inr ⟨c, 36, fz, rfl, Or.inr (Or.inl rfl)⟩)
theorem Kr.row {B : Nat} {W W' : World} (K : Kr WTy B W W') {base size k : Nat} {v : Value} {xs : List Value} (h : W.ownsRow base 335 size v k xs) : W'.ownsRow base 335 size v k xs := by
  refine ⟨h.1, ?_⟩
  rcases h.2 with e | ⟨g, cap, cur, e, e1, e2, e3⟩
  · exact Or.inl e
  · exact Or.inr ⟨g, cap, cur, e, e1, K.same g _ e2 (Or.inr ⟨cur, _, _, rfl, Or.inl rfl⟩), e3⟩
theorem Ow.grownBy {ty : TypeId} {B : Nat} {W W' : World} {row : Option Nat} (hg : W.grownBy W' row) (hr : ∀ r, row = some r → B ≤ r ∧ ∃ c fz, W.heap[r]? = some (Obj.cells c ty fz)) : Ow ty B W W' := by
  refine ⟨hg.os, hg.tape, hg.output, hg.size, fun k o hk ho => ?_⟩
  refine (hg.block k (Array.getElem?_eq_some_iff.1 hk).1 (fun e => ?_)).trans hk
  obtain ⟨h1, c, fz, h2⟩ := hr k e.symm
  rcases ho with ho | ho
  · omega
  · rw [hk] at h2
    cases h2
    exact ho.2 ⟨c, ty, fz, rfl, rfl⟩
theorem Ow.drewN {ty : TypeId} {B : Nat} (W : World) (m : Nat) : Ow ty B W (W.drewN m) := ⟨rfl, rfl, rfl, Nat.le_refl _, fun _ _ h _ => h⟩
theorem Ow.setCell {ty : TypeId} {B : Nat} (W : World) {g : Nat} (hB : B ≤ g) {c : Array Value} {fz : Nat × Nat} (hg : W.heap[g]? = some (Obj.cells c ty fz)) (o : Nat) (u : Value) : Ow ty B W (W.setCell ⟨g, o, none⟩ u) :=
  Ow.grownBy (row := some g) ⟨rfl, rfl, rfl, by simp [World.setCell], fun k _ hne => Below.heap_setCell W ⟨g, o, none⟩ u k (fun e => hne (by rw [show k = g from e]))⟩ (fun r e => by cases e; exact ⟨hB, c, fz, hg⟩)

theorem kids_form {W : World} {t : Lf} (h : Here W t) : ∃ a cap, (if t.op = 0 then Value.slice none 0 0 else t.kv) = .slice a t.ks.length cap := by
  obtain ⟨a, cap, hkv, _⟩ := h.kidsIn
  unfold Lf.ks
  by_cases h0 : t.op = 0
  · simp [h0]
  · simp [h0, hkv]

/-- There are as many steps as Kids, at least. -/
theorem wk_len {t : Lf} {d m : Nat} (hm : m < t.ks.length) (hd : d ≤ m) : m - d + 2 ≤ (wk t d).length := by
  obtain ⟨k, hk⟩ : ∃ k, t.ks[d]? = some k := ⟨_, List.getElem?_eq_getElem (by omega)⟩
  rw [wk_step hk]
  by_cases he : d = m
  · have : 1 ≤ (wk t (d + 1)).length := by rw [wk]; simp
    simp
    omega
  · have := wk_len (t := t) (d := d + 1) hm (by omega)
    simp
    omega
termination_by t.ks.length - d
decreasing_by omega

theorem wk_kid {t k : Lf} {d m : Nat} (hm : t.ks[m]? = some k) (hd : d ≤ m) : (wk k 0).length + 1 ≤ (wk t d).length := by
  have hlt := (List.getElem?_eq_some_iff.1 hm).1
  by_cases he : d = m
  · subst he
    rw [wk_step hm]
    simp
  · obtain ⟨k', hk'⟩ : ∃ k', t.ks[d]? = some k' := ⟨_, List.getElem?_eq_getElem (by omega)⟩
    have := wk_kid (d := d + 1) hm (by omega)
    rw [wk_step hk']
    simp
    omega
termination_by t.ks.length - d
decreasing_by omega
theorem infoStep : (Tryz.prog.info? 335).map (fun i => (i.zero, i.size, i.bytes)) = some (some (.agg #[.pointer none, .int .i64 0]), 2, 16) := by kernel_rfl
theorem cell_twos (w : World) (x y : Value) (t : TypeId) : ∀ j u, [x, y][j]? = some u → (w.alloc (.cells #[x, y] t)).cell? ((⟨w.heap.size, 0, none⟩ : Addr).add j) = some u := by
  intro j u hj
  have R := made_row w #[x, y] t
  match j, hj with
  | 0, hj => simp at hj; rw [← hj]; exact R.cell (i := 0) (by simp)
  | 1, hj => simp at hj; rw [← hj]; exact R.cell (i := 1) (by simp)
theorem kid_at {W : World} {t k : Lf} {d : Nat} (h : Here W t) (hk : t.ks[d]? = some k) : ∃ kb ko kl cap, t.kv = .slice (some ⟨kb, ko, none⟩) kl cap ∧ d < kl ∧ k.b = kb ∧ k.o = ko + d * 4 ∧ k ∈ t.kids := by
  unfold Lf.ks at hk
  split at hk
  · simp at hk
  · obtain ⟨a, cap, hkv, _, hh⟩ := h.kidsIn
    have hlt := (List.getElem?_eq_some_iff.1 hk).1
    rcases hh with hh | ⟨kb, ko, ha, hh⟩
    · rw [hh] at hk; simp at hk
    · obtain ⟨h1, h2⟩ := hh d k hk
      exact ⟨kb, ko, t.kids.length, cap, by rw [hkv, ha], hlt, h1, h2, List.mem_of_getElem? hk⟩

/-- The way down lies in memory. -/
structure Wy (W : World) (B : Nat) (t : Lf) (v : Value) (ws : List (Lf × Nat)) : Prop where
  row : W.ownsRow B 335 2 v ws.length (stepC ws)
  here : ∀ x ∈ ws, Here W x.1 ∧ x.2 ≤ x.1.ks.length
  deep : ∀ (i : Nat) (x : Lf × Nat), ws[i]? = some x → (wk x.1 0).length + i ≤ (wk t 0).length

theorem Wy.kr {W W' : World} {B C : Nat} {t : Lf} {v : Value} {ws : List (Lf × Nat)} (h : Wy W B t v ws) (K : Kr WTy C W W') : Wy W' B t v ws :=
  ⟨K.row h.row, fun x hx => ⟨(h.here x hx).1.keep (K.fkeep.toA _), (h.here x hx).2⟩, h.deep⟩

theorem Wy.last {W : World} {B : Nat} {t : Lf} {v : Value} {rest : List (Lf × Nat)} {p : Lf × Nat} (h : Wy W B t v (rest ++ [p])) :
    ∃ g cap, v = .slice (some ⟨g, 0, none⟩) (rest.length + 1) cap ∧ rest.length + 1 ≤ cap ∧ B ≤ g ∧ (∃ c, W.heap[g]? = some (Obj.cells c 335 (0, 0))) ∧ W.cell? ⟨g, rest.length * 2, none⟩ = some (.pointer (some ⟨p.1.b, p.1.o, none⟩)) ∧ W.cell? ⟨g, rest.length * 2 + 1, none⟩ = some (.int .i64 (p.2 : Int)) ∧ Wy W B t (.slice (some ⟨g, 0, none⟩) rest.length cap) rest := by
  have hr := h.row
  rw [List.length_append, List.length_singleton, stepC_app] at hr
  obtain ⟨g, cap, hv⟩ := ownsRow_succ hr
  subst hv
  have hcap : rest.length + 1 ≤ cap ∧ B ≤ g ∧ ∃ c, W.heap[g]? = some (Obj.cells c 335 (0, 0)) := by
    rcases hr.2 with ⟨e, _⟩ | ⟨g', cap', cur, e, hg1, hg2, hnc, _⟩
    · cases e
    · cases e; exact ⟨hnc, hg1, cur, hg2⟩
  have c0 := hr.cellAt (rest.length * 2) (by omega)
  have c1 := hr.cellAt (rest.length * 2 + 1) (by omega)
  rw [List.getElem?_append_right (by rw [stepC_len]; omega), stepC_len] at c0 c1
  refine ⟨g, cap, rfl, hcap.1, hcap.2.1, hcap.2.2, by simpa [stepC] using c0, by simpa [stepC] using c1, ⟨ownsRow_pop (stepC_len rest) hr, fun x hx => h.here x (List.mem_append_left _ hx), fun i x hi => h.deep i x ?_⟩⟩
  rw [List.getElem?_append_left (List.getElem?_eq_some_iff.1 hi).1]
  exact hi

theorem Wy.at {W : World} {B : Nat} {t : Lf} {g cap : Nat} {rest : List (Lf × Nat)} {p : Lf × Nat} (h : Wy W B t (.slice (some ⟨g, 0, none⟩) (rest.length + 1) cap) (rest ++ [p])) :
    B ≤ g ∧ (∃ c, W.heap[g]? = some (Obj.cells c 335 (0, 0))) ∧ W.cell? ⟨g, rest.length * 2, none⟩ = some (.pointer (some ⟨p.1.b, p.1.o, none⟩)) ∧ W.cell? ⟨g, rest.length * 2 + 1, none⟩ = some (.int .i64 (p.2 : Int)) ∧ Wy W B t (.slice (some ⟨g, 0, none⟩) rest.length cap) rest := by
  obtain ⟨g', cap', hv, _, h1, h2, h3, h4, h5⟩ := h.last
  have hv2 : g = g' ∧ cap = cap' := by simpa using hv
  obtain ⟨rfl, rfl⟩ := hv2
  exact ⟨h1, h2, h3, h4, h5⟩
theorem frozen_of {W : World} {g : Nat} {c : Array Value} {ty : TypeId} (h : W.heap[g]? = some (Obj.cells c ty (0, 0))) (o : Nat) : W.frozen? ⟨g, o, none⟩ = false := by
  simp [World.frozen?, h]

/-- One more of its Kids is done. -/
theorem Wy.done {W : World} {B : Nat} {t : Lf} {g cap : Nat} {rest : List (Lf × Nat)} {p : Lf × Nat} (h : Wy W B t (.slice (some ⟨g, 0, none⟩) (rest.length + 1) cap) (rest ++ [p])) (hd : p.2 < p.1.ks.length) :
    Wy (W.setCell ⟨g, rest.length * 2 + 1, none⟩ (.int .i64 ((p.2 : Int) + 1))) B t (.slice (some ⟨g, 0, none⟩) (rest.length + 1) cap) (rest ++ [(p.1, p.2 + 1)]) := by
  have hr := h.row
  rw [List.length_append, List.length_singleton] at hr
  have hs := (hr.stored (rest.length * 2 + 1) (.int .i64 ((p.2 : Int) + 1))).1
  obtain ⟨_, ⟨c, hc⟩, _, _, _⟩ := h.at
  refine ⟨?_, ?_, ?_⟩
  · rw [List.length_append, List.length_singleton]
    have e : (stepC (rest ++ [p])).set (rest.length * 2 + 1) (.int .i64 ((p.2 : Int) + 1)) = stepC (rest ++ [(p.1, p.2 + 1)]) := by
      rw [stepC_app, stepC_app, List.set_append_right _ _ (by rw [stepC_len]; omega), stepC_len]
      have : rest.length * 2 + 1 - rest.length * 2 = 1 := by omega
      rw [this]
      simp [stepC]
    rw [← e]
    exact hs
  · intro x hx
    have K : FKeepA (fun _ => True) W (W.setCell ⟨g, rest.length * 2 + 1, none⟩ (.int .i64 ((p.2 : Int) + 1))) := fun k cc fz _ hk => (Below.heap_setCell W _ _ k (fun e => by
      have e' : k = g := e
      rw [e', hc] at hk
      simp at hk)).trans hk
    rcases List.mem_append.1 hx with hx | hx
    · exact ⟨(h.here x (List.mem_append_left _ hx)).1.keep K, (h.here x (List.mem_append_left _ hx)).2⟩
    · obtain rfl := List.mem_singleton.1 hx
      exact ⟨(h.here p (by simp)).1.keep K, hd⟩
  · intro i x hi
    by_cases hlt : i < rest.length
    · rw [List.getElem?_append_left hlt] at hi
      exact h.deep i x (by rw [List.getElem?_append_left hlt]; exact hi)
    · rw [List.getElem?_append_right (by omega)] at hi
      have : i - rest.length = 0 := by
        have := (List.getElem?_eq_some_iff.1 hi).1
        simp at this; omega
      rw [this] at hi
      simp at hi
      rw [← hi]
      have := h.deep rest.length p (by simp)
      have e : i = rest.length := by omega
      rw [e]
      exact this

set_option maxRecDepth 100000 in
set_option maxHeartbeats 2000000 in
theorem steps1_in (n : Nat) (hn : 1 ≤ n) (Bf : Nat) (t : Lf) (w0 : World) (hb : w0.rowIs Bf 161 1 (fun _ => .pointer (some ⟨t.b, t.o, none⟩))) (ht : Here w0 t) (hN : (wk t 0).length * 16 ≤ 140737488355328) :
    SeqT n Tryz.prog WTy 335 234 #[.pointer (some ⟨Bf, 0, none⟩)] encS (wk t 0) w0 := by
  intro l J W hW hJ hY h0
  have hbW := (hW.cell (p := ⟨Bf, 0, none⟩) hb.lt).trans (hb.cell (i := 0) (by omega))
  refine callsIn_of_wp Tryz.func234 rfl trivial ?_ rfl
  simp only [Tryz.ntmps234, List.size_toArray, List.length_cons, List.length_nil, Nat.reduceAdd, Nat.reduceSub, Array.replicate_succ, Array.replicate_zero, List.push_toArray, List.append_toArray, List.nil_append, List.cons_append]
  gi_wp2
  have h1 := hJ 0 W _ h0 (Ow.alloc W (.cells #[.pointer (some ⟨t.b, t.o, none⟩), .int .i64 0] 335))
  have hs1 : W.heap.size ≤ (W.alloc (.cells #[.pointer (some ⟨t.b, t.o, none⟩), .int .i64 0] 335)).heap.size := by simp
  have Y1 : Wy (W.alloc (.cells #[.pointer (some ⟨t.b, t.o, none⟩), .int .i64 0] 335)) W.heap.size t (.slice (some ⟨W.heap.size, 0, none⟩) 1 1) [(t, 0)] := by
    refine ⟨World.ownsRow_lit _ #[.pointer (some ⟨t.b, t.o, none⟩), .int .i64 0] 1 (Nat.le_refl _) (by decide) rfl, ?_, ?_⟩
    · intro x hx
      obtain rfl := List.mem_singleton.1 hx
      refine ⟨(ht.keep ?_).keep ((FKeep.alloc 0 W _).toA _), Nat.zero_le _⟩
      exact fun k c fz _ hk => (hW.block k (Array.getElem?_eq_some_iff.1 hk).1).trans hk
    · intro i x hi
      match i, hi with
      | 0, hi => simp at hi; rw [← hi]; exact Nat.le_refl _
  generalize W.alloc (.cells #[.pointer (some ⟨t.b, t.o, none⟩), .int .i64 0] 335) = w1 at h1 Y1 hs1 ⊢
  refine wpIn_wide.2 ?_
  go_loopg [3] ((wk t 0).length) (fun k v W' => ∃ (ws : List (Lf × Nat)) (i : Nat), Hid (i + k = (wk t 0).length ∧ k = (rem ws.reverse).length ∧ (wk t 0).drop i = rem ws.reverse) ∧ Wy W' W.heap.size t v ws ∧ Hid (J i W') ∧ Hid (W.heap.size ≤ W'.heap.size))
  case atStart => exact ⟨[(t, 0)], 0, ⟨by omega, by simp [rem], by simp [rem]⟩, Y1, h1, hs1⟩
  case round =>
    clear h1 Y1 hs1 h0 hbW
    obtain ⟨ws, i, hk, Y, hJi, hsz⟩ := hrel
    rcases List.eq_nil_or_concat ws with rfl | ⟨rest, p, rfl⟩
    · obtain ⟨va, vc, hv⟩ := row_form Y.row
      subst hv
      go_wp2_with fail
      go_end0
      obtain ⟨e1, e2, e3⟩ := hk.out
      have e4 : i = (wk t 0).length := by simp [rem] at e2; omega
      exact ⟨⟨_, rfl⟩, e4 ▸ hJi.out⟩
    · rw [List.concat_eq_append] at hk Y
      obtain ⟨g, cap, hv, hcap, hgB, hgc, c0, c1, Y2⟩ := Y.last
      subst hv
      have hrl : rest.length ≤ 8796093022208 := by
        have h1 := Y.deep rest.length p (by simp)
        omega
      have dk : decide ((0 : Int) < (rest.length : Int) + 1) = true := decide_eq_true (by omega)
      have dk' : (0 : Int) < (rest.length : Int) + 1 := by omega
      go_wp2_with fail
      go_quiet (fail)
      have Y3 : Wy (wr.drewN nq) W.heap.size t (.slice (some ⟨g, 0, none⟩) (rest.length + 1) cap) (rest ++ [p]) := by
        have := Y.kr (C := 0) (W' := wr.drewN nq) ⟨Nat.le_refl _, fun _ _ h _ => h⟩
        exact this
      have J3 : Hid (J i (wr.drewN nq)) := hJ i _ _ hJi.out (Ow.drewN wr nq)
      have hz3 : Hid (W.heap.size ≤ (wr.drewN nq).heap.size) := hsz
      clear Y Y2 hJi hsz c0 c1 hgc
      generalize wr.drewN nq = w3 at *
      obtain ⟨e1, e2, e3⟩ := hk.out
      have hi : (wk t 0)[i]? = some p := by
        have h1 : (wk t 0)[i]? = ((wk t 0).drop i)[0]? := by simp
        rw [h1, e3]
        simp only [rem, List.reverse_append, List.reverse_cons, List.reverse_nil, List.nil_append, List.singleton_append, List.flatMap_cons]
        rw [wk]
        rfl
      obtain ⟨fn, tmps, assign, body, hy, hR⟩ := hY i p w3 hi J3.out
      unfold encS at hy
      dsimp only [Exit.then]
      apply_assumption
      refine (wpIn_wide (n := n)).1 ?_
      have hks := (Y3.here p (by simp)).2
      gi_wp2
      refine hR.mono ?_
      rintro e w4 ⟨rfl, hJ4, hK4⟩
      have Y4 := Y3.kr hK4
      have hz4 : Hid (W.heap.size ≤ w4.heap.size) := Nat.le_trans hz3.out hK4.size
      obtain ⟨ka, kc, hkf⟩ := kids_form (Y4.here p (by simp)).1
      have KD := callsIn_wide (n := n - 1) |>.2 (kids_in w4 p.1 (Y4.here p (by simp)).1)
      rw [hkf] at KD
      clear hR hy Y3 J3 hz3 hK4
      by_cases hend : p.2 = p.1.ks.length
      · have dE : ((p.2 : Int) == (p.1.ks.length : Int)) = true := by simp; omega
        have dE' : (p.2 : Int) = (p.1.ks.length : Int) := by omega
        obtain ⟨_, _, _, _, Y5⟩ := Y4.at
        have hrem : Hid (rem (rest ++ [p]).reverse = p :: rem rest.reverse) := by
          show rem _ = _
          simp only [rem, List.reverse_append, List.reverse_cons, List.reverse_nil, List.nil_append, List.singleton_append, List.flatMap_cons]
          rw [wk_end (List.getElem?_eq_none (by omega))]
          rfl
        clear hend
        gi_wp2_with (first | (refine ⟨trivial, ?_⟩; gi_at_call 156; refine KD.mono ?_; rintro e w5 ⟨rfl, rfl⟩))
        go_roundg (rem rest.reverse).length
        case measure => rw [e2, hrem.out]; simp
        case rel =>
          refine ⟨rest, i + 1, ⟨?_, rfl, ?_⟩, Y5, hJ4, hz4⟩
          · rw [hrem.out] at e2
            simp at e2
            omega
          · rw [← List.drop_drop, e3, hrem.out]
            rfl
      · have dE : ((p.2 : Int) == (p.1.ks.length : Int)) = false := by simp; omega
        have dE' : ¬ (p.2 : Int) = (p.1.ks.length : Int) := by omega
        have hlt : p.2 < p.1.ks.length := by omega
        obtain ⟨hgB4, ⟨gc, hgc4⟩, q0, q1, _⟩ := Y4.at
        have fz4 := frozen_of hgc4 (rest.length * 2 + 1)
        have hwp : p.2 ≤ 8796093022208 := by
          have h1 := Y4.deep rest.length p (by simp)
          have h2 := wk_len (t := p.1) (d := 0) hlt (Nat.zero_le _)
          omega
        have Y5 := Y4.done hlt
        have J5 := hJ (i + 1) _ _ hJ4 (Ow.setCell w4 hgB4 hgc4 (rest.length * 2 + 1) (.int .i64 ((p.2 : Int) + 1)))
        obtain ⟨kid, hkid⟩ : ∃ k, p.1.ks[p.2]? = some k := ⟨_, List.getElem?_eq_getElem hlt⟩
        obtain ⟨kb, ko, kl, kcap, hkv, hkl, hkb, hko, hmem⟩ := kid_at (Y4.here p (by simp)).1 hkid
        have c3 := (Y4.here p (by simp)).1.cells.c3
        rw [hkv] at c3
        have hne : ¬ p.1.b = g := by
          obtain ⟨c, fz, hc, _⟩ := (Y4.here p (by simp)).1.cells
          rintro rfl
          rw [hgc4] at hc
          simp at hc
        obtain ⟨i0, hi0, hz0, hz1, hz2⟩ := info_parts infoStep
        have hkl' : (p.2 : Int) < (kl : Int) := by omega
        have h6 : W.heap.size ≤ (w4.setCell ⟨g, rest.length * 2 + 1, none⟩ (.int .i64 ((p.2 : Int) + 1))).heap.size := by simp [World.setCell]; exact hz4.out
        have hr6 := Y5.row
        rw [List.length_append, List.length_singleton] at hr6
        have HY5 : Hid (_ ∧ _) := And.intro Y5 J5
        have hzs : (w4.setCell ⟨g, rest.length * 2 + 1, none⟩ (.int .i64 ((p.2 : Int) + 1))).heap.size = w4.heap.size := by simp [World.setCell]
        have TW := cell_twos (w4.setCell ⟨g, rest.length * 2 + 1, none⟩ (.int .i64 ((p.2 : Int) + 1))) (.pointer (some ⟨kb, ko + p.2 * 4, none⟩)) (.int .i64 0) 335
        rw [hzs] at TW
        clear hzs
        have hdl : (rest.length + 1 + 1) * 16 ≤ 140737488355328 := by
          have h1 := Y4.deep rest.length p (by simp)
          have h2 := wk_len (t := p.1) (d := 0) hlt (Nat.zero_le _)
          omega
        clear Y4 Y5 J5 hJ4 hY
        gi_wp2_with (first | (refine ⟨trivial, ?_⟩; gi_at_call 156; refine KD.mono ?_; rintro e w5 ⟨rfl, rfl⟩) | (gi_at_builtin; refine Aside.out ?_))
        delta Aside
        refine wpListIn_append_own _ rfl _ _ 336 rfl W.heap.size 335 i0 _ 2 16 Tryz.underlying336 hi0 hz0 hz1 hz2 rfl (by decide) _ _ _ rfl (hr6.alloc _) ⟨_, 0, none⟩ 1 1 [.pointer (some ⟨kb, ko + p.2 * 4, none⟩), .int .i64 0] rfl rfl TW (by simp [Value.oneCell']) (by unfold maxLen; omega) (by omega) (Nat.le_trans h6 (by simp)) ?_
        intro v' w7 hown7 hgrow7 _
        replace hgrow7 : World.grownBy _ w7 (some g) := hgrow7
        obtain ⟨g7, cap7, rfl⟩ := ownsRow_succ hown7
        gi_wp2
        obtain ⟨Y5, J5⟩ := HY5.out
        obtain ⟨_, ⟨gc6, hgc6⟩, _, _, _⟩ := Wy.at (rest := rest) (p := (p.1, p.2 + 1)) (by simpa using Y5)
        have hOw : Ow 335 W.heap.size _ w7 := Ow.grownBy hgrow7 (fun r e => by
          have : r = g := by simpa using e.symm
          subst this
          exact ⟨hgB4, gc6, (0, 0), (Below.heap_alloc _ _ _ (Array.getElem?_eq_some_iff.1 hgc6).1).trans hgc6⟩)
        have J7 := hJ (i + 1) _ _ (hJ (i + 1) _ _ J5 (Ow.alloc _ _)) hOw
        have K7 : FKeepA (fun _ => True) _ w7 := ((FKeep.alloc 0 _ _).toA (fun _ => True)).trans (fun k c fz _ hk => hOw.same k _ hk (Or.inr ⟨rfl, by rintro ⟨c', ty', fz', e, e'⟩; cases e; cases e'⟩))
        have hrem : rem (rest ++ [p]).reverse = p :: rem (rest ++ [(p.1, p.2 + 1)] ++ [(kid, 0)]).reverse := by
          simp only [rem, List.reverse_append, List.reverse_cons, List.reverse_nil, List.nil_append, List.flatMap_cons, List.cons_append]
          rw [wk_step hkid]
          simp
        have Y7 : Wy w7 W.heap.size t (.slice (some ⟨g7, 0, none⟩) (rest.length + 1 + 1) cap7) (rest ++ [(p.1, p.2 + 1)] ++ [(kid, 0)]) := by
          refine ⟨?_, ?_, ?_⟩
          · rw [List.length_append, List.length_append, List.length_singleton, List.length_singleton, stepC_app (rest ++ [(p.1, p.2 + 1)]) [(kid, 0)]]
            have e : stepC [(kid, 0)] = [.pointer (some ⟨kb, ko + p.2 * 4, none⟩), .int .i64 0] := by simp [stepC, hkb, hko]
            rw [e]
            exact hown7
          · intro x hx
            rcases List.mem_append.1 hx with hx | hx
            · exact ⟨(Y5.here x hx).1.keep K7, (Y5.here x hx).2⟩
            · obtain rfl := List.mem_singleton.1 hx
              exact ⟨Here.kid (t := p.1) ((Y5.here (p.1, p.2 + 1) (by simp)).1.keep K7) hmem, Nat.zero_le _⟩
          · intro j x hj
            by_cases hl : j < rest.length + 1
            · rw [List.getElem?_append_left (by simpa using hl)] at hj
              exact Y5.deep j x hj
            · rw [List.getElem?_append_right (by simp; omega)] at hj
              have : j - (rest ++ [(p.1, p.2 + 1)]).length = 0 := by
                have := (List.getElem?_eq_some_iff.1 hj).1
                simp at this ⊢; omega
              rw [this] at hj
              simp at hj
              have h1 := Y5.deep rest.length (p.1, p.2 + 1) (by simp)
              have h2 := wk_kid hkid (Nat.zero_le p.2)
              simp at this
              rw [← hj]
              simp at h1 ⊢
              omega
        go_roundg (rem (rest ++ [(p.1, p.2 + 1)] ++ [(kid, 0)]).reverse).length
        case measure => rw [e2, hrem]; simp
        case rel =>
          refine ⟨rest ++ [(p.1, p.2 + 1)] ++ [(kid, 0)], i + 1, ⟨?_, rfl, ?_⟩, Y7, J7, ?_⟩
          · rw [hrem] at e2
            simp only [List.length_cons] at e2
            omega
          · rw [← List.drop_drop, e3, hrem]
            rfl
          · have := hOw.size
            have h8 : (w5.setCell ⟨g, rest.length * 2 + 1, none⟩ (.int .i64 ((p.2 : Int) + 1))).heap.size ≤ w7.heap.size := Nat.le_trans (by simp) this
            exact Nat.le_trans h6 h8

end Go.Proofs.YtlehlgipbhfioaaGreat
