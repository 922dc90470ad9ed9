/- Package logic: fold, plainly. LogicClauses: the literals along a formula's Forms. Package logic: isWhole; Eval's functions. Package logic: what makes clauses: literal. -/
import Derived.Test.YtinphcnknionmabLoP
import Derived.Test.YtinphcnknionmabP21
import Derived.Test.YtinphcnknionmabP04
import Derived.Deep.RegionWith
namespace Go.Proofs.Ytinphcnknionmab
open Go.RowKit Go.Shelf

section
variable {β : Type}

/-- What a Form comes to, if each one's value is made of those of its Kids. -/
def fo (g : Lf → List β → β) (t : Lf) : β := g t (t.ks.attach.map fun k => fo g k.1)
termination_by SizeOf.sizeOf t
decreasing_by exact ks_lt k.2

theorem fo_eq (g : Lf → List β → β) (t : Lf) : fo g t = g t (t.ks.map (fo g)) := by
  rw [fo]
  congr 1
  exact List.attach_map_val (l := t.ks) (f := fo g) ▸ rfl

/-- A Form behind its Kids, whose values are the last ones. -/
def foS (g : Lf → List β → β) (vs : List β) (x : Lf) : List β := vs.take (vs.length - x.ks.length) ++ [g x (vs.drop (vs.length - x.ks.length))]

/-- There are always enough values. -/
def Fine (g : Lf → List β → β) : List β → List Lf → Prop
  | _, [] => True
  | vs, x :: l => x.ks.length ≤ vs.length ∧ Fine g (foS g vs x) l

theorem Fine.app {g : Lf → List β → β} : ∀ {vs : List β} {l1 l2 : List Lf}, Fine g vs l1 → Fine g (l1.foldl (foS g) vs) l2 → Fine g vs (l1 ++ l2)
  | _, [], _, _, h => h
  | _, _ :: _, _, h1, h2 => ⟨h1.1, Fine.app h1.2 h2⟩
theorem Fine.at {g : Lf → List β → β} : ∀ {vs : List β} {l : List Lf} {i : Nat} {x : Lf}, Fine g vs l → l[i]? = some x → x.ks.length ≤ ((l.take i).foldl (foS g) vs).length
  | _, y :: l, 0, x, h, hi => by
    simp at hi
    subst hi
    exact h.1
  | vs, y :: l, i + 1, x, h, hi => by
    simp at hi
    simpa using Fine.at h.2 hi

theorem wk_fold (g : Lf → List β → β) (t : Lf) (d : Nat) (hd : d ≤ t.ks.length) (vs : List β) :
    ((wk t d).filterMap isEnd).foldl (foS g) (vs ++ (t.ks.take d).map (fo g)) = vs ++ [fo g t] ∧ Fine g (vs ++ (t.ks.take d).map (fo g)) ((wk t d).filterMap isEnd) := by
  cases h : t.ks[d]? with
  | none =>
    have hl : d = t.ks.length := by
      have := List.getElem?_eq_none_iff.1 h
      omega
    have he : isEnd (t, d) = some t := by simp [isEnd, hl]
    have hz : (vs ++ (t.ks.take d).map (fo g)).length - t.ks.length = vs.length := by simp; omega
    rw [wk_end h, List.filterMap_cons_some he, List.filterMap_nil]
    refine ⟨?_, ?_, trivial⟩
    · simp only [List.foldl_cons, List.foldl_nil, foS]
      rw [hz, List.take_left', List.drop_left']
      · rw [fo_eq, hl, List.take_length]
      · rfl
      · rfl
    · simp; omega
  | some k =>
    have hlt := (List.getElem?_eq_some_iff.1 h).1
    have he : isEnd (t, d) = none := by simp [isEnd]; omega
    have hk := wk_fold g k 0 (Nat.zero_le _) (vs ++ (t.ks.take d).map (fo g))
    have ht := wk_fold g t (d + 1) hlt vs
    have e1 : vs ++ (t.ks.take d).map (fo g) ++ [fo g k] = vs ++ (t.ks.take (d + 1)).map (fo g) := by
      rw [List.take_add_one, h]
      simp
    simp only [List.take_zero, List.map_nil, List.append_nil] at hk
    rw [wk_step h, List.filterMap_cons_none he, List.filterMap_append]
    refine ⟨?_, ?_⟩
    · rw [List.foldl_append, hk.1, e1]
      exact ht.1
    · refine Fine.app hk.2 ?_
      rw [hk.1, e1]
      exact ht.2
termination_by (SizeOf.sizeOf t, t.ks.length - d)
decreasing_by
  · exact Prod.Lex.left _ _ (ks_lt (List.mem_of_getElem? h))
  · exact Prod.Lex.right _ (by omega)

/-- The values behind the first i Forms. -/
def stV (g : Lf → List β → β) (t : Lf) (i : Nat) : List β := ((es t).take i).foldl (foS g) []
theorem stV_zero (g : Lf → List β → β) (t : Lf) : stV g t 0 = [] := rfl
theorem stV_step {g : Lf → List β → β} {t x : Lf} {i : Nat} (h : (es t)[i]? = some x) : stV g t (i + 1) = foS g (stV g t i) x ∧ x.ks.length ≤ (stV g t i).length := by
  have F := (wk_fold g t 0 (Nat.zero_le _) []).2
  refine ⟨?_, Fine.at F h⟩
  unfold stV
  rw [List.take_add_one, h]
  simp
theorem stV_all (g : Lf → List β → β) (t : Lf) : stV g t (es t).length = [fo g t] := by
  have := (wk_fold g t 0 (Nat.zero_le _) []).1
  unfold stV
  rw [List.take_length]
  simpa [es] using this
theorem foS_len (g : Lf → List β → β) (vs : List β) (x : Lf) : (foS g vs x).length ≤ vs.length + 1 := by
  simp [foS]
theorem stV_len (g : Lf → List β → β) (t : Lf) : ∀ i : Nat, (stV g t i).length ≤ i
  | 0 => by simp [stV]
  | i + 1 => by
    cases h : (es t)[i]? with
    | none =>
      have : stV g t (i + 1) = stV g t i := by unfold stV; rw [List.take_add_one, h]; simp
      rw [this]
      have := stV_len g t i
      omega
    | some x =>
      rw [(stV_step h).1]
      have h1 := foS_len g (stV g t i) x
      have h2 := stV_len g t i
      omega

end

end Go.Proofs.Ytinphcnknionmab

namespace Go.Proofs.Ytinphcnknionmab
open Go.RowKit Go.Shelf

theorem es_leaf {t : Lf} (h0 : t.op = 0) : es t = [t] := by
  have hks : t.ks = [] := by simp [Lf.ks, h0]
  unfold es
  rw [wk_end (by rw [hks]; rfl)]
  simp [isEnd, hks]
theorem es_one {t k : Lf} (h0 : ¬ t.op = 0) (hk : t.kids = [k]) : es t = es k ++ [t] := by
  have hks : t.ks = [k] := by simp [Lf.ks, h0, hk]
  unfold es
  rw [wk_one h0 hk, List.filterMap_cons_none (by simp [isEnd, hks]), List.filterMap_append]
  simp [isEnd, hks]
theorem es_two {t a b : Lf} (h0 : ¬ t.op = 0) (hk : t.kids = [a, b]) : es t = es a ++ es b ++ [t] := by
  have hks : t.ks = [a, b] := by simp [Lf.ks, h0, hk]
  unfold es
  rw [wk_two h0 hk, List.filterMap_cons_none (by simp [isEnd, hks]), List.filterMap_append, List.filterMap_cons_none (by simp [isEnd, hks]), List.filterMap_append]
  simp [isEnd, hks]

/-- All Forms of a formula are formulas. -/
theorem es_wf {f : Fo} (hw : WfF f) : ∀ t : Lf, t.er = f → ∀ x ∈ es t, WfF x.er := by
  induction hw with
  | eq x y =>
    intro t ht z hz
    obtain ⟨h1, _, _, _⟩ := Lf.er_kids ht
    rw [es_leaf h1] at hz
    obtain rfl := List.mem_singleton.1 hz
    rw [ht]
    exact .eq x y
  | neg f hf ih =>
    intro t ht z hz
    obtain ⟨h1, _, _, h4⟩ := Lf.er_kids ht
    obtain ⟨k, hk, hke⟩ := map_one h4
    rw [es_one (by rw [h1]; decide) hk] at hz
    rcases List.mem_append.1 hz with hz | hz
    · exact ih k hke z hz
    · obtain rfl := List.mem_singleton.1 hz
      rw [ht]
      exact .neg f hf
  | two o f g ho hf hg ih1 ih2 =>
    intro t ht z hz
    obtain ⟨h1, _, _, h4⟩ := Lf.er_kids ht
    obtain ⟨a, b, hk, ha, hb⟩ := map_two h4
    rw [es_two (by rw [h1]; rcases ho with rfl | rfl | rfl <;> decide) hk] at hz
    rcases List.mem_append.1 hz with hz | hz
    · rcases List.mem_append.1 hz with hz | hz
      · exact ih1 a ha z hz
      · exact ih2 b hb z hz
    · obtain rfl := List.mem_singleton.1 hz
      rw [ht]
      exact .two o f g ho hf hg


/-- What literal answers, and what it leaves. -/
def litG (an : Int × Int → Nat) (x : Lf) (args : List Int) (st : Sc) : Int × Sc :=
  if x.op = 1 then (-(args[0]?.getD 0), st)
  else if x.op = 2 then Cn.both (args[0]?.getD 0) (args[1]?.getD 0) st
  else if x.op = 3 then (-(Cn.both (-(args[0]?.getD 0)) (-(args[1]?.getD 0)) st).1, (Cn.both (-(args[0]?.getD 0)) (-(args[1]?.getD 0)) st).2)
  else if x.op = 4 then (-(Cn.both (args[0]?.getD 0) (-(args[1]?.getD 0)) st).1, (Cn.both (args[0]?.getD 0) (-(args[1]?.getD 0)) st).2)
  else ((an (x.x, x.y) : Int), st)

/-- One Form further. -/
def stepL (an : Int × Int → Nat) (s : List Int × Sc) (x : Lf) : List Int × Sc :=
  (s.1.take (s.1.length - x.ks.length) ++ [(litG an x (s.1.drop (s.1.length - x.ks.length)) s.2).1], (litG an x (s.1.drop (s.1.length - x.ks.length)) s.2).2)

theorem stepL_app (an : Int × Int → Nat) (vs args : List Int) (st : Sc) (x : Lf) (h : args.length = x.ks.length) : stepL an (vs ++ args, st) x = (vs ++ [(litG an x args st).1], (litG an x args st).2) := by
  have e : (vs ++ args).length - x.ks.length = vs.length := by simp; omega
  unfold stepL
  simp only [e, List.take_left', List.drop_left']

theorem es_fold (an : Int × Int → Nat) {f : Fo} (hw : WfF f) : ∀ t : Lf, t.er = f → ∀ (vs : List Int) (st : Sc), (es t).foldl (stepL an) (vs, st) = (vs ++ [(Cn.tse an f st).1], (Cn.tse an f st).2) := by
  induction hw with
  | eq x y =>
    intro t ht vs st
    obtain ⟨h1, h2, h3, _⟩ := Lf.er_kids ht
    have hks : t.ks = [] := by simp [Lf.ks, h1]
    have := stepL_app an vs [] st t (by rw [hks]; rfl)
    rw [List.append_nil] at this
    rw [es_leaf h1, List.foldl_cons, List.foldl_nil, this]
    simp [litG, h1, h2, h3, Cn.tse]
  | neg f hf ih =>
    intro t ht vs st
    obtain ⟨h1, _, _, h4⟩ := Lf.er_kids ht
    obtain ⟨k, hk, hke⟩ := map_one h4
    have h0 : ¬ t.op = 0 := by rw [h1]; decide
    have hks : t.ks = [k] := by simp [Lf.ks, h0, hk]
    rw [es_one h0 hk, List.foldl_append, ih k hke, List.foldl_cons, List.foldl_nil, stepL_app an _ _ _ _ (by rw [hks]; rfl)]
    simp [litG, h1, Cn.tse]
  | two o f g ho hf hg ih1 ih2 =>
    intro t ht vs st
    obtain ⟨h1, _, _, h4⟩ := Lf.er_kids ht
    obtain ⟨a, b, hk, ha, hb⟩ := map_two h4
    have h0 : ¬ t.op = 0 := by rw [h1]; rcases ho with rfl | rfl | rfl <;> decide
    have hks : t.ks = [a, b] := by simp [Lf.ks, h0, hk]
    rw [es_two h0 hk, List.foldl_append, List.foldl_append, ih1 a ha, ih2 b hb, List.foldl_cons, List.foldl_nil, List.append_assoc, stepL_app an vs _ _ _ (by rw [hks]; rfl)]
    rcases ho with rfl | rfl | rfl
    · rw [Cn.tse] <;> simp [litG, h1]
    · rw [Cn.tse] <;> simp [litG, h1]
    · rw [Cn.tse] <;> simp [litG, h1]

/-- Behind the first i Forms. -/
def stC (an : Int × Int → Nat) (t : Lf) (n : Nat) (i : Nat) : List Int × Sc := ((es t).take i).foldl (stepL an) ([], (n, []))
theorem stC_step {an : Int × Int → Nat} {t x : Lf} {n i : Nat} (h : (es t)[i]? = some x) : stC an t n (i + 1) = stepL an (stC an t n i) x := by
  unfold stC
  rw [List.take_add_one, h]
  simp
theorem stC_all (an : Int × Int → Nat) {t : Lf} (hw : WfF t.er) (n : Nat) : stC an t n (es t).length = ([(Cn.tse an t.er (n, [])).1], (Cn.tse an t.er (n, [])).2) := by
  unfold stC
  rw [List.take_length, es_fold an hw t rfl]
  rfl
theorem stC_len (an : Int × Int → Nat) (t : Lf) (n : Nat) : ∀ i, (stC an t n i).1.length = (stV (fun _ _ => ()) t i).length
  | 0 => rfl
  | i + 1 => by
    have ih := stC_len an t n i
    cases h : (es t)[i]? with
    | none =>
      have e1 : stC an t n (i + 1) = stC an t n i := by unfold stC; rw [List.take_add_one, h]; simp
      have e2 : stV (fun _ _ => ()) t (i + 1) = stV (fun _ _ => ()) t i := by unfold stV; rw [List.take_add_one, h]; simp
      rw [e1, e2, ih]
    | some x =>
      rw [stC_step h, (stV_step h).1]
      simp [stepL, foS, ih]
theorem stC_enough {an : Int × Int → Nat} {t x : Lf} {n i : Nat} (h : (es t)[i]? = some x) : x.ks.length ≤ (stC an t n i).1.length := by
  rw [stC_len]
  exact (stV_step h).2

theorem litG_ok {an : Int × Int → Nat} {x : Lf} {args : List Int} {st : Sc} (ha : ∀ v ∈ args, v.natAbs ≤ st.1) (hx : x.op = 0 → an (x.x, x.y) ≤ st.1) (hop : x.op = 0 ∨ x.op = 1 ∨ x.op = 2 ∨ x.op = 3 ∨ x.op = 4) :
    (litG an x args st).1.natAbs ≤ (litG an x args st).2.1 ∧ st.1 ≤ (litG an x args st).2.1 ∧ (litG an x args st).2.1 ≤ st.1 + 1 ∧ (litG an x args st).2.2.length ≤ st.2.length + 3 := by
  have h0 : ∀ j : Nat, (args[j]?.getD 0).natAbs ≤ st.1 := fun j => by
    cases h : args[j]? with
    | none => simp
    | some v => exact ha v (List.mem_of_getElem? h)
  unfold litG
  rcases hop with h | h | h | h | h
  · have := hx h
    simp [h]
    omega
  · have := h0 0
    simp [h] at this ⊢
    omega
  · simp [h, Cn.both]
    omega
  · simp [h, Cn.both]
    omega
  · simp [h, Cn.both]
    omega

theorem wf_op {t : Lf} (h : WfF t.er) : t.op = 0 ∨ t.op = 1 ∨ t.op = 2 ∨ t.op = 3 ∨ t.op = 4 := by
  rw [← Lf.er_op]
  generalize t.er = f at h
  cases h with
  | eq => exact Or.inl rfl
  | neg => exact Or.inr (Or.inl rfl)
  | two o _ _ ho => rcases ho with rfl | rfl | rfl <;> simp [Fo.op]

theorem stC_ok (an : Int × Int → Nat) {t : Lf} (hw : WfF t.er) (n : Nat) (ha : ∀ p ∈ eqF t.er, an p ≤ n) : ∀ i, i ≤ (es t).length → (∀ v ∈ (stC an t n i).1, v.natAbs ≤ (stC an t n i).2.1) ∧ n ≤ (stC an t n i).2.1 ∧ (stC an t n i).2.1 ≤ n + i ∧ (stC an t n i).2.2.length ≤ 3 * i
  | 0, _ => by simp [stC]
  | i + 1, hi => by
    obtain ⟨h1, h2, h3, h4⟩ := stC_ok an hw n ha i (by omega)
    have hx : (es t)[i]? = some (es t)[i] := List.getElem?_eq_getElem (by omega)
    have hm := List.mem_of_getElem? hx
    rw [stC_step hx]
    generalize (es t)[i] = x at *
    have hwx := es_wf hw t rfl x hm
    have hq : x.op = 0 → an (x.x, x.y) ≤ (stC an t n i).2.1 := fun h0 => by
      refine Nat.le_trans (ha _ ?_) h2
      rw [← eqs_er]
      exact List.mem_filterMap.2 ⟨x, hm, by simp [isEq, h0]⟩
    obtain ⟨g1, g2, g3, g4⟩ := litG_ok (an := an) (args := (stC an t n i).1.drop ((stC an t n i).1.length - x.ks.length)) (st := (stC an t n i).2) (fun v hv => h1 v (List.mem_of_mem_drop hv)) hq (wf_op hwx)
    unfold stepL
    refine ⟨fun v hv => ?_, by dsimp only; omega, by dsimp only; omega, by dsimp only; omega⟩
    dsimp only at hv ⊢
    rcases List.mem_append.1 hv with hv | hv
    · have := h1 v (List.mem_of_mem_take hv)
      omega
    · obtain rfl := List.mem_singleton.1 hv
      exact g1

end Go.Proofs.Ytinphcnknionmab

namespace Go.Proofs.Ytinphcnknionmab
open Go.RowKit Go.Shelf

/-- Has a Form as many Kids as told? -/
def whl (t : Lf) : Bool := if t.op = 0 then t.kids.length == 0 else if t.op = 1 then t.kids.length == 1 else if t.op = 2 ∨ t.op = 3 ∨ t.op = 4 then t.kids.length == 2 else false

set_option maxHeartbeats 1000000 in
theorem isWhole_in (w : World) (t : Lf) (h : Here w t) :
    Calls Try.prog 21 #[.pointer (some ⟨t.b, t.o, none⟩)] w fun e w' => e = .returned (.bool (whl t)) ∧ w' = w := by
  have c0 := h.cells.c0
  have c3 := h.cells.c3
  obtain ⟨a, cap, hkv, _⟩ := h.kidsIn
  rw [hkv] at c3
  generalize hn : t.kids.length = n at *
  have W0 : whl t = (if t.op = 0 then n == 0 else if t.op = 1 then n == 1 else if t.op = 2 ∨ t.op = 3 ∨ t.op = 4 then n == 2 else false) := by simp [whl, hn]
  generalize hop : t.op = op at *
  have HW : Hid (whl t = _) := W0
  have hb0 : ((n : Int) == 0) = (n == 0) := by rw [Bool.eq_iff_iff, beq_iff_eq, beq_iff_eq]; omega
  have hb1 : ((n : Int) == 1) = (n == 1) := by rw [Bool.eq_iff_iff, beq_iff_eq, beq_iff_eq]; omega
  have hb2 : ((n : Int) == 2) = (n == 2) := by rw [Bool.eq_iff_iff, beq_iff_eq, beq_iff_eq]; omega
  have HB : Hid (_ ∧ _ ∧ _) := ⟨hb0, hb1, hb2⟩
  clear hb0 hb1 hb2
  clear W0 hop hn
  go_enter Try.func21, Try.ntmps21
  by_cases h0 : op = 0
  · subst h0
    go_wp2_with fail
    go_ret
    refine ⟨ret_bool ?_, rfl⟩
    rw [HW.out, HB.out.1]
    simp
  · have d0 : (op == 0) = false := by simpa using h0
    by_cases h1 : op = 1
    · subst h1
      go_wp2_with fail
      go_ret
      refine ⟨ret_bool ?_, rfl⟩
      rw [HW.out, HB.out.2.1]
      simp
    · have d1 : (op == 1) = false := by simpa using h1
      by_cases h2 : op = 2
      · subst h2
        go_wp2_with fail
        go_ret
        refine ⟨ret_bool ?_, rfl⟩
        rw [HW.out, HB.out.2.2]
        simp
      · have d2 : (op == 2) = false := by simpa using h2
        by_cases h3 : op = 3
        · subst h3
          go_wp2_with fail
          go_ret
          refine ⟨ret_bool ?_, rfl⟩
          rw [HW.out, HB.out.2.2]
          simp
        · have d3 : (op == 3) = false := by simpa using h3
          by_cases h4 : op = 4
          · subst h4
            go_wp2_with fail
            go_ret
            refine ⟨ret_bool ?_, rfl⟩
            rw [HW.out, HB.out.2.2]
            simp
          · have d4 : (op == 4) = false := by simpa using h4
            go_wp2_with fail
            go_ret
            refine ⟨?_, rfl⟩
            rw [HW.out]
            simp [h0, h1, h2, h3, h4]

end Go.Proofs.Ytinphcnknionmab

namespace Go.Proofs.Ytinphcnknionmab
open Go.RowKit Go.Shelf

def IntsAt (W : World) (sv : Value) (args : List Int) : Prop := ∃ a cap, sv = .slice a args.length cap ∧ ClsAt W a args

theorem MadeX.none {S : Nat → Prop} {w w' : World} {mb ab : Nat} {ps : List (Int × Int)} {rv : Value} {st : Sc} (h : Mk S w mb ab ps rv st) (K : Kept0 w w') : MadeX S w rv S w' rv mb ab ps st :=
  ⟨h.keep K.size (fun k hk => K.block k (h.lt k hk) (fun e => e)), fun _ hk => Or.inl hk, Or.inl rfl, K.mono (fun _ _ e => e.elim)⟩
theorem ret_i {p q : Int} (h : p = q) : Ending.returned (.int .i64 p) = Ending.returned (.int .i64 q) := by rw [h]

theorem wrap_negN (x : Int) (n : Nat) (h : x = ((n + 1 : Nat) : Int)) (hn : n ≤ 1073741824) : IntKind.i64.wrap (-x) = -x := by
  subst h
  rw [IntKind.wrap_i64]
  omega

set_option maxRecDepth 100000 in
set_option maxHeartbeats 4000000 in
theorem literal_in (w : World) (S : Nat → Prop) (mb ab : Nat) (ps : List (Int × Int)) (rv : Value) (st : Sc) (h : Mk S w mb ab ps rv st) (hs : st.1 ≤ 1073741824) (hs2 : st.2.length ≤ 1073741824) (t : Lf) (ht : Here w t) (hw : whl t = true) (hx : P64 (t.x, t.y)) (sv : Value) (args : List Int) (hA : IntsAt w sv args) (hl : args.length = t.ks.length) (hb : ∀ v ∈ args, v.natAbs ≤ 1073741824) :
    Calls Try.prog 31 #[.pointer (some ⟨mb, 0, none⟩), .pointer (some ⟨t.b, t.o, none⟩), sv] w fun e w' => e = .returned (.int .i64 (litG (numP ps) t args st).1) ∧ Made S w w' mb ab ps rv (litG (numP ps) t args st).2 := by
  have WH := isWhole_in w t ht
  rw [hw] at WH
  have c0 := ht.cells.c0
  have cx := ht.cells.c1
  have cy := ht.cells.c2
  have BO : Hid (∀ (m : Nat) (p q : Int), p.natAbs ≤ 1099511627776 → q.natAbs ≤ 1099511627776 → Calls Try.prog 45 #[.pointer (some ⟨mb, 0, none⟩), .int .i64 p, .int .i64 q] (w.drewN m) fun e w' => e = .returned (.int .i64 (Cn.both p q st).1) ∧ Made S w w' mb ab ps rv (Cn.both p q st).2) := fun m p q hp hq => (both_in (w.drewN m) S mb ab ps rv st (h.keep (Nat.le_refl _) (fun _ _ => rfl)) (by omega) hs2 p q hp hq).mono (by
    rintro e w' ⟨rfl, S', rv', X⟩
    exact ⟨rfl, S', rv', (MadeX.none h ((Kept.refl _ w).drewN m)).trans X⟩)
  obtain ⟨sa, scap, rfl, hargs⟩ := hA
  have K0 : Kept0 w w := Kept.refl _ w
  have HE : Hid (litG (numP ps) t args st = _) := litG.eq_1 (numP ps) t args st
  have HB : Hid (∀ p q, (Cn.both p q st).1 = ((st.1 + 1 : Nat) : Int)) := fun p q => rfl
  have cm : w.cell? ⟨mb, 0, none⟩ = some (.map (some ab)) := h.cells.cell (i := 0) (by omega)
  have HM : Hid (∀ m, MadeX S w rv S (w.drewN m) rv mb ab ps st) := fun m => MadeX.none h ((Kept.refl _ w).drewN m)
  have LK : (Instr.lookup 64 (.map (some ab)) (pairV (t.x, t.y)) false).run Try.prog w.drew = .ok (.int .i64 (numP ps (t.x, t.y) : Int)) w.drew := (h.map.keep rfl : NumIs w.drew ab ps).look hx
  simp only [pairV] at LK
  have hcell : ∀ (j : Nat) (b : Int), args[j]? = some b → ∃ g off, sa = some ⟨g, off, none⟩ ∧ w.cell? ⟨g, off + j, none⟩ = some (.int .i64 b) := fun j b hj => by
    rcases hargs with e | ⟨g, off, e1, e2⟩
    · rw [e] at hj; simp at hj
    · exact ⟨g, off, e1, e2 j b hj⟩
  have hkl : t.op ≠ 0 → args.length = t.kids.length := fun h0 => by rw [hl]; simp [Lf.ks, h0]
  have hA1 : Hid (∀ p, args = [p] → (litG (numP ps) t args st) = (if t.op = 1 then (-p, st) else litG (numP ps) t args st)) := fun p hp => by
    split
    · next h1 => rw [litG, if_pos h1, hp]; rfl
    · rfl
  go_enter Try.func31, Try.ntmps31
  by_cases h1 : t.op = 1
  · have hk1 : t.kids.length = 1 := by simpa [whl, h1] using hw
    have hal := hkl (by omega)
    obtain ⟨p, rfl⟩ : ∃ p, args = [p] := List.length_eq_one_iff.1 (by omega)
    obtain ⟨g, off, rfl, hc⟩ := hcell 0 p rfl
    rw [h1] at c0
    have hc' : w.cell? ⟨g, off, none⟩ = some (.int .i64 p) := hc
    have hpb := hb p (by simp)
    have wp : IntKind.i64.wrap (-p) = -p := by rw [IntKind.wrap_i64]; omega
    have HE2 : Hid (litG (numP ps) t [p] st = (-p, st)) := by show _ = _; rw [HE.out, if_pos h1]; rfl
    clear hcell hkl hargs hc cx cy hl hal hk1 HE hA1 BO hb h LK cm
    go_wp2_with (first | (go_at_call 21; refine WH.mono ?_; rintro e w2 ⟨rfl, rfl⟩))
    go_ret
    rw [HE2.out]
    exact ⟨rfl, _, _, HM.out 0⟩
  · have d1 : (t.op == 1) = false := by simpa using h1
    by_cases h2 : t.op = 2
    · clear d1
      have hk2 : t.kids.length = 2 := by simpa [whl, h2] using hw
      have hal := hkl (by omega)
      obtain ⟨p, q, rfl⟩ : ∃ p q, args = [p, q] := by
        match args, (show args.length = 2 by omega) with
        | [p, q], _ => exact ⟨p, q, rfl⟩
      obtain ⟨g, off, rfl, hc⟩ := hcell 0 p rfl
      obtain ⟨g', off', e', hd⟩ := hcell 1 q rfl
      obtain ⟨rfl, rfl⟩ : g = g' ∧ off = off' := by simpa using e'
      rw [h2] at c0
      have hc' : w.cell? ⟨g, off, none⟩ = some (.int .i64 p) := hc
      have hpb := hb p (by simp)
      have hqb := hb q (by simp)
      have HE2 : Hid (litG (numP ps) t [p, q] st = Cn.both p q st) := by show _ = _; rw [HE.out, if_neg h1, if_pos h2]; rfl
      have BB := fun m => BO.out m p q (by omega) (by omega)
      clear hcell hkl hargs hc cx cy hl hal hk2 e' HE hA1 BO hb h LK cm
      go_wp2_with (first | (go_at_call 21; refine WH.mono ?_; rintro e w2 ⟨rfl, rfl⟩))
      go_region_with (go_at_call 45; refine (BB 1).mono ?_; rintro e w3 ⟨rfl, M3⟩)
      all_goals
        try simp only [Act.put, List.getElem_toArray, List.getElem_cons_succ, List.getElem_cons_zero, List.setIfInBounds_toArray, List.set_cons_succ, List.set_cons_zero]
        go_wp2_with fail
        go_ret
        rw [HE2.out]
        exact ⟨rfl, M3⟩
    · have d2 : (t.op == 2) = false := by simpa using h2
      by_cases h3 : t.op = 3
      · clear d1 d2
        have hk2 : t.kids.length = 2 := by simpa [whl, h3] using hw
        have hal := hkl (by omega)
        obtain ⟨p, q, rfl⟩ : ∃ p q, args = [p, q] := by
          match args, (show args.length = 2 by omega) with
          | [p, q], _ => exact ⟨p, q, rfl⟩
        obtain ⟨g, off, rfl, hc⟩ := hcell 0 p rfl
        obtain ⟨g', off', e', hd⟩ := hcell 1 q rfl
        obtain ⟨rfl, rfl⟩ : g = g' ∧ off = off' := by simpa using e'
        rw [h3] at c0
        have hc' : w.cell? ⟨g, off, none⟩ = some (.int .i64 p) := hc
        have hpb := hb p (by simp)
        have hqb := hb q (by simp)
        have wp : IntKind.i64.wrap (-p) = -p := by rw [IntKind.wrap_i64]; omega
        have wq : IntKind.i64.wrap (-q) = -q := by rw [IntKind.wrap_i64]; omega
        have BB := fun m => BO.out m (-p) (-q) (by omega) (by omega)
        have HE2 : Hid (litG (numP ps) t [p, q] st = (-(Cn.both (-p) (-q) st).1, (Cn.both (-p) (-q) st).2)) := by show _ = _; rw [HE.out, if_neg h1, if_neg h2, if_pos h3]; rfl
        have wx : IntKind.i64.wrap (-(Cn.both (-p) (-q) st).1) = -(Cn.both (-p) (-q) st).1 := wrap_negN _ _ (HB.out _ _) hs
        generalize (Cn.both (-p) (-q) st).1 = bx at *
        generalize (Cn.both (-p) (-q) st).2 = bst at *
        clear hcell hkl hargs hc cx cy hl hal hk2 e' HE hA1 BO hb h LK cm HB
        go_wp2_with (first | (go_at_call 21; refine WH.mono ?_; rintro e w2 ⟨rfl, rfl⟩))
        go_region_with (go_at_call 45; refine (BB 1).mono ?_; rintro e w3 ⟨rfl, M3⟩)
        all_goals
          try simp only [Act.put, List.getElem_toArray, List.getElem_cons_succ, List.getElem_cons_zero, List.setIfInBounds_toArray, List.set_cons_succ, List.set_cons_zero]
          go_wp2_with fail
          go_ret
          rw [HE2.out]
          exact ⟨rfl, M3⟩
      · have d3 : (t.op == 3) = false := by simpa using h3
        by_cases h4 : t.op = 4
        · clear d1 d2 d3
          have hk2 : t.kids.length = 2 := by simpa [whl, h4] using hw
          have hal := hkl (by omega)
          obtain ⟨p, q, rfl⟩ : ∃ p q, args = [p, q] := by
            match args, (show args.length = 2 by omega) with
            | [p, q], _ => exact ⟨p, q, rfl⟩
          obtain ⟨g, off, rfl, hc⟩ := hcell 0 p rfl
          obtain ⟨g', off', e', hd⟩ := hcell 1 q rfl
          obtain ⟨rfl, rfl⟩ : g = g' ∧ off = off' := by simpa using e'
          rw [h4] at c0
          have hc' : w.cell? ⟨g, off, none⟩ = some (.int .i64 p) := hc
          have hpb := hb p (by simp)
          have hqb := hb q (by simp)
          have wp : IntKind.i64.wrap (-p) = -p := by rw [IntKind.wrap_i64]; omega
          have wq : IntKind.i64.wrap (-q) = -q := by rw [IntKind.wrap_i64]; omega
          have BB := fun m => BO.out m (p) (-q) (by omega) (by omega)
          have HE2 : Hid (litG (numP ps) t [p, q] st = (-(Cn.both (p) (-q) st).1, (Cn.both (p) (-q) st).2)) := by show _ = _; rw [HE.out, if_neg h1, if_neg h2, if_neg h3, if_pos h4]; rfl
          have wx : IntKind.i64.wrap (-(Cn.both (p) (-q) st).1) = -(Cn.both (p) (-q) st).1 := wrap_negN _ _ (HB.out _ _) hs
          generalize (Cn.both (p) (-q) st).1 = bx at *
          generalize (Cn.both (p) (-q) st).2 = bst at *
          clear hcell hkl hargs hc cx cy hl hal hk2 e' HE hA1 BO hb h LK cm HB
          go_wp2_with (first | (go_at_call 21; refine WH.mono ?_; rintro e w2 ⟨rfl, rfl⟩))
          go_region_with (go_at_call 45; refine (BB 1).mono ?_; rintro e w3 ⟨rfl, M3⟩)
          all_goals
            try simp only [Act.put, List.getElem_toArray, List.getElem_cons_succ, List.getElem_cons_zero, List.setIfInBounds_toArray, List.set_cons_succ, List.set_cons_zero]
            go_wp2_with fail
            go_ret
            rw [HE2.out]
            exact ⟨rfl, M3⟩
        · have d4 : (t.op == 4) = false := by simpa using h4
          have HE2 : Hid (litG (numP ps) t args st = ((numP ps (t.x, t.y) : Int), st)) := by show _ = _; rw [HE.out, if_neg h1, if_neg h2, if_neg h3, if_neg h4]
          clear hcell hkl hargs hl HE hA1 BO hb h HB
          generalize numP ps (t.x, t.y) = np at *
          go_wp2_with (first | (go_at_call 21; refine WH.mono ?_; rintro e w2 ⟨rfl, rfl⟩))
          go_region_with fail
          all_goals
            try simp only [Act.put, List.getElem_toArray, List.getElem_cons_succ, List.getElem_cons_zero, List.setIfInBounds_toArray, List.set_cons_succ, List.set_cons_zero]
            go_wp2_with fail
            go_ret
            rw [HE2.out]
            exact ⟨rfl, _, _, HM.out 1⟩

end Go.Proofs.Ytinphcnknionmab
