/- Package logic: fold, plainly. Package logic: isWhole; Eval's functions. Package logic: Eval's functions. -/
import Derived.Test.YtlehlgipbhfioaaGreatLoP
import Derived.Laws.Bits64
namespace Go.Proofs.YtlehlgipbhfioaaGreat
open Go.RowKit Go.Shelf

section
variable {β : Type}

/-- What a Form comes to, if each one's value is made of those of its Kids. -/
def fo (g : Lf → List β → β) (t : Lf) : β := g t (t.ks.attach.map fun k => fo g k.1)
termination_by SizeOf.sizeOf t
decreasing_by exact ks_lt k.2

theorem fo_eq (g : Lf → List β → β) (t : Lf) : fo g t = g t (t.ks.map (fo g)) := by
  rw [fo]
  congr 1
  exact List.attach_map_val (l := t.ks) (f := fo g) ▸ rfl

/-- A Form behind its Kids, whose values are the last ones. -/
def foS (g : Lf → List β → β) (vs : List β) (x : Lf) : List β := vs.take (vs.length - x.ks.length) ++ [g x (vs.drop (vs.length - x.ks.length))]

/-- There are always enough values. -/
def Fine (g : Lf → List β → β) : List β → List Lf → Prop
  | _, [] => True
  | vs, x :: l => x.ks.length ≤ vs.length ∧ Fine g (foS g vs x) l

theorem Fine.app {g : Lf → List β → β} : ∀ {vs : List β} {l1 l2 : List Lf}, Fine g vs l1 → Fine g (l1.foldl (foS g) vs) l2 → Fine g vs (l1 ++ l2)
  | _, [], _, _, h => h
  | _, _ :: _, _, h1, h2 => ⟨h1.1, Fine.app h1.2 h2⟩
theorem Fine.at {g : Lf → List β → β} : ∀ {vs : List β} {l : List Lf} {i : Nat} {x : Lf}, Fine g vs l → l[i]? = some x → x.ks.length ≤ ((l.take i).foldl (foS g) vs).length
  | _, y :: l, 0, x, h, hi => by
    simp at hi
    subst hi
    exact h.1
  | vs, y :: l, i + 1, x, h, hi => by
    simp at hi
    simpa using Fine.at h.2 hi

theorem wk_fold (g : Lf → List β → β) (t : Lf) (d : Nat) (hd : d ≤ t.ks.length) (vs : List β) :
    ((wk t d).filterMap isEnd).foldl (foS g) (vs ++ (t.ks.take d).map (fo g)) = vs ++ [fo g t] ∧ Fine g (vs ++ (t.ks.take d).map (fo g)) ((wk t d).filterMap isEnd) := by
  cases h : t.ks[d]? with
  | none =>
    have hl : d = t.ks.length := by
      have := List.getElem?_eq_none_iff.1 h
      omega
    have he : isEnd (t, d) = some t := by simp [isEnd, hl]
    have hz : (vs ++ (t.ks.take d).map (fo g)).length - t.ks.length = vs.length := by simp; omega
    rw [wk_end h, List.filterMap_cons_some he, List.filterMap_nil]
    refine ⟨?_, ?_, trivial⟩
    · simp only [List.foldl_cons, List.foldl_nil, foS]
      rw [hz, List.take_left', List.drop_left']
      · rw [fo_eq, hl, List.take_length]
      · rfl
      · rfl
    · simp; omega
  | some k =>
    have hlt := (List.getElem?_eq_some_iff.1 h).1
    have he : isEnd (t, d) = none := by simp [isEnd]; omega
    have hk := wk_fold g k 0 (Nat.zero_le _) (vs ++ (t.ks.take d).map (fo g))
    have ht := wk_fold g t (d + 1) hlt vs
    have e1 : vs ++ (t.ks.take d).map (fo g) ++ [fo g k] = vs ++ (t.ks.take (d + 1)).map (fo g) := by
      rw [List.take_add_one, h]
      simp
    simp only [List.take_zero, List.map_nil, List.append_nil] at hk
    rw [wk_step h, List.filterMap_cons_none he, List.filterMap_append]
    refine ⟨?_, ?_⟩
    · rw [List.foldl_append, hk.1, e1]
      exact ht.1
    · refine Fine.app hk.2 ?_
      rw [hk.1, e1]
      exact ht.2
termination_by (SizeOf.sizeOf t, t.ks.length - d)
decreasing_by
  · exact Prod.Lex.left _ _ (ks_lt (List.mem_of_getElem? h))
  · exact Prod.Lex.right _ (by omega)

/-- The values behind the first i Forms. -/
def stV (g : Lf → List β → β) (t : Lf) (i : Nat) : List β := ((es t).take i).foldl (foS g) []
theorem stV_zero (g : Lf → List β → β) (t : Lf) : stV g t 0 = [] := rfl
theorem stV_step {g : Lf → List β → β} {t x : Lf} {i : Nat} (h : (es t)[i]? = some x) : stV g t (i + 1) = foS g (stV g t i) x ∧ x.ks.length ≤ (stV g t i).length := by
  have F := (wk_fold g t 0 (Nat.zero_le _) []).2
  refine ⟨?_, Fine.at F h⟩
  unfold stV
  rw [List.take_add_one, h]
  simp
theorem stV_all (g : Lf → List β → β) (t : Lf) : stV g t (es t).length = [fo g t] := by
  have := (wk_fold g t 0 (Nat.zero_le _) []).1
  unfold stV
  rw [List.take_length]
  simpa [es] using this
theorem foS_len (g : Lf → List β → β) (vs : List β) (x : Lf) : (foS g vs x).length ≤ vs.length + 1 := by
  simp [foS]
theorem stV_len (g : Lf → List β → β) (t : Lf) : ∀ i : Nat, (stV g t i).length ≤ i
  | 0 => by simp [stV]
  | i + 1 => by
    cases h : (es t)[i]? with
    | none =>
      have : stV g t (i + 1) = stV g t i := by unfold stV; rw [List.take_add_one, h]; simp
      rw [this]
      have := stV_len g t i
      omega
    | some x =>
      rw [(stV_step h).1]
      have h1 := foS_len g (stV g t i) x
      have h2 := stV_len g t i
      omega

end

end Go.Proofs.YtlehlgipbhfioaaGreat

namespace Go.Proofs.YtlehlgipbhfioaaGreat
open Go.RowKit Go.Shelf

/-- Has a Form as many Kids as told? -/
def whl (t : Lf) : Bool := if t.op = 0 then t.kids.length == 0 else if t.op = 1 then t.kids.length == 1 else if t.op = 2 ∨ t.op = 3 ∨ t.op = 4 then t.kids.length == 2 else false

set_option maxHeartbeats 1000000 in
theorem isWhole_in (w : World) (t : Lf) (h : Here w t) :
    Calls Tryz.prog 137 #[.pointer (some ⟨t.b, t.o, none⟩)] w fun e w' => e = .returned (.bool (whl t)) ∧ w' = w := by
  have c0 := h.cells.c0
  have c3 := h.cells.c3
  obtain ⟨a, cap, hkv, _⟩ := h.kidsIn
  rw [hkv] at c3
  generalize hn : t.kids.length = n at *
  have W0 : whl t = (if t.op = 0 then n == 0 else if t.op = 1 then n == 1 else if t.op = 2 ∨ t.op = 3 ∨ t.op = 4 then n == 2 else false) := by simp [whl, hn]
  generalize hop : t.op = op at *
  have HW : Hid (whl t = _) := W0
  have hb0 : ((n : Int) == 0) = (n == 0) := by rw [Bool.eq_iff_iff, beq_iff_eq, beq_iff_eq]; omega
  have hb1 : ((n : Int) == 1) = (n == 1) := by rw [Bool.eq_iff_iff, beq_iff_eq, beq_iff_eq]; omega
  have hb2 : ((n : Int) == 2) = (n == 2) := by rw [Bool.eq_iff_iff, beq_iff_eq, beq_iff_eq]; omega
  have HB : Hid (_ ∧ _ ∧ _) := ⟨hb0, hb1, hb2⟩
  clear hb0 hb1 hb2
  clear W0 hop hn
  go_enter Tryz.func137, Tryz.ntmps137
  by_cases h0 : op = 0
  · subst h0
    go_wp2_with fail
    go_ret
    refine ⟨ret_bool ?_, rfl⟩
    rw [HW.out, HB.out.1]
    simp
  · have d0 : (op == 0) = false := by simpa using h0
    by_cases h1 : op = 1
    · subst h1
      go_wp2_with fail
      go_ret
      refine ⟨ret_bool ?_, rfl⟩
      rw [HW.out, HB.out.2.1]
      simp
    · have d1 : (op == 1) = false := by simpa using h1
      by_cases h2 : op = 2
      · subst h2
        go_wp2_with fail
        go_ret
        refine ⟨ret_bool ?_, rfl⟩
        rw [HW.out, HB.out.2.2]
        simp
      · have d2 : (op == 2) = false := by simpa using h2
        by_cases h3 : op = 3
        · subst h3
          go_wp2_with fail
          go_ret
          refine ⟨ret_bool ?_, rfl⟩
          rw [HW.out, HB.out.2.2]
          simp
        · have d3 : (op == 3) = false := by simpa using h3
          by_cases h4 : op = 4
          · subst h4
            go_wp2_with fail
            go_ret
            refine ⟨ret_bool ?_, rfl⟩
            rw [HW.out, HB.out.2.2]
            simp
          · have d4 : (op == 4) = false := by simpa using h4
            go_wp2_with fail
            go_ret
            refine ⟨?_, rfl⟩
            rw [HW.out]
            simp [h0, h1, h2, h3, h4]

end Go.Proofs.YtlehlgipbhfioaaGreat

namespace Go.Proofs.YtlehlgipbhfioaaGreat
open Go.RowKit Go.Shelf

/-- Classes, and how many there are, in two boxes. -/
structure Cls (W : World) (bb cb : Nat) (ca : Option Addr) (cn cc : Nat) (cls : List Int) : Prop where
  bnd : W.rowIs bb 105 1 (fun _ => .int .u64 (cn : Int))
  cbx : W.rowIs cb 39 1 (fun _ => .slice ca cn cc)
  len : cls.length = cn
  cells : cls = [] ∨ ∃ g off, ca = some ⟨g, off, none⟩ ∧ ∀ (j : Nat) (c : Int), cls[j]? = some c → W.cell? ⟨g, off + j, none⟩ = some (.int .i64 c)
  small : cn ≤ 9223372036854775807

theorem u_in {n : Nat} {a : Int} (hn : n ≤ 9223372036854775807) (ha : R64 a) : decide (IntKind.u64.wrap a < (n : Int)) = inC n a := by
  unfold inC
  obtain ⟨h1, h2⟩ := ha
  rw [IntKind.wrap_u64, decide_eq_decide]
  omega

set_option maxRecDepth 100000 in
set_option maxHeartbeats 2000000 in
theorem same_in (w : World) (bb cb : Nat) (ca : Option Addr) (cn cc : Nat) (cls : List Int) (h : Cls w bb cb ca cn cc cls) (a b : Int) (ha : R64 a) (hb : R64 b) :
    Calls Tryz.prog 134 #[.agg #[.int .i64 a, .int .i64 b], .pointer (some ⟨bb, 0, none⟩), .pointer (some ⟨cb, 0, none⟩)] w fun e w' => e = .returned (.bool (sameC cls a b)) ∧ Kept0 w w' := by
  have c0 := h.bnd.cell (i := 0) (by omega)
  have c1 := h.cbx.cell (i := 0) (by omega)
  have z0 := h.bnd.lt
  have z1 := h.cbx.lt
  have ua := u_in h.small ha
  have ub := u_in h.small hb
  have hl := h.len
  have K1 : ∀ m, Kept0 w ((w.alloc (.cells #[.int .i64 a, .int .i64 b] 34)).drewN m) := fun m => ((Kept.refl _ w).alloc _).drewN m
  have HS : Hid (sameC cls a b = (inC cn a && inC cn b && (cls[a.toNat]?.getD 0 == cls[b.toNat]?.getD 0))) := by show _ = _; rw [← hl]; rfl
  go_enter Tryz.func134, Tryz.ntmps134
  cases hia : inC cn a with
  | false =>
    rw [hia] at ua HS
    go_wp2_with fail
    go_quiet (fail)
    go_wp2_with fail
    go_ret
    exact ⟨ret_bool (by rw [HS.out]; rfl), K1 _⟩
  | true =>
    rw [hia] at ua HS
    cases hib : inC cn b with
    | false =>
      rw [hib] at ub HS
      go_wp2_with fail
      go_quiet (fail)
      go_wp2_with fail
      go_ret
      exact ⟨ret_bool (by rw [HS.out]; rfl), K1 _⟩
    | true =>
      rw [hib] at ub HS
      have ia := of_decide_eq_true hia
      have ib := of_decide_eq_true hib
      obtain ⟨i, rfl⟩ : ∃ i : Nat, a = (i : Int) := ⟨a.toNat, by omega⟩
      obtain ⟨j, rfl⟩ : ∃ j : Nat, b = (j : Int) := ⟨b.toNat, by omega⟩
      have hi : i < cls.length := by omega
      have hj : j < cls.length := by omega
      rcases h.cells with hc | ⟨g, off, rfl, hc⟩
      · rw [hc] at hi; simp at hi
      · have e1 := hc i _ (List.getElem?_eq_getElem hi)
        have e2 := hc j _ (List.getElem?_eq_getElem hj)
        have zg : g < w.heap.size := World.block_lt_of_cell? w _ e1
        have hi2 : (i : Int) < (cn : Int) := ia.2
        have hj2 : (j : Int) < (cn : Int) := ib.2
        have HS2 : Hid (sameC cls i j = (cls[i] == cls[j])) := by
          show _ = _
          rw [HS.out]
          simp [hi, hj]
        clear HS hc hia hib ha hb ia ib
        generalize cls[i] = ci at *
        generalize cls[j] = cj at *
        go_wp2_with fail
        go_quiet (fail)
        go_wp2_with fail
        go_ret
        exact ⟨ret_bool (by rw [HS2.out]), K1 _⟩

end Go.Proofs.YtlehlgipbhfioaaGreat
