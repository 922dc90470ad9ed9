/- Package close: together. -/
import Derived.Test.YtinphcnknionmaaSCloC
import Derived.Deep.RegionLaw
namespace Go.Proofs.Ytinphcnknionmaa
open Go.RowKit Go.Maps

theorem infoIntK : (Try.prog.info? 3).map (fun i => (i.zero, i.size, i.bytes)) = some (some (.int .i64 0), 1, 8) := by kernel_rfl
def natC (l : List Nat) : List Value := l.map fun x : Nat => Value.int .i64 (x : Int)
theorem natC_len (l : List Nat) : (natC l).length = l.length := by simp [natC]
theorem natC_app (a b : List Nat) : natC a ++ natC b = natC (a ++ b) := by simp [natC]
theorem natC_get (l : List Nat) (j : Nat) : (natC l)[j]? = (l[j]?).map (fun x : Nat => Value.int .i64 (x : Int)) := by simp [natC]
theorem natC_one (l : List Nat) : ∀ u ∈ natC l, u.oneCell' = true := by
  intro u hu
  simp [natC] at hu
  obtain ⟨a, _, rfl⟩ := hu
  rfl

/-- A row of one's own is a block that need not change any more. -/
theorem UseIs.own {w : World} {base : Nat} {v : Value} {xs : List Nat} (h : w.ownsRow base 3 1 v xs.length (natC xs)) (hx : xs ≠ []) :
    ∃ x : Nat × Obj, UseIs [x] v xs ∧ w.heap[x.1]? = some x.2 ∧ v.ownBlock = some x.1 := by
  rcases h.2 with ⟨_, h0⟩ | ⟨g, cap, cur, rfl, hbg, hg, hnc, hcm, hcs, htake⟩
  · exact absurd (List.eq_nil_of_length_eq_zero h0) hx
  · refine ⟨(g, .cells cur 3 (0, 0)), ⟨some ⟨g, 0, none⟩, cap, rfl, hnc, .inr ⟨g, 0, cur, (0, 0), rfl, by simp, fun j x hj => ?_⟩⟩, hg, rfl⟩
    have hlt := (List.getElem?_eq_some_iff.1 hj).1
    have h1 : (natC xs)[j]? = some (.int .i64 (x : Int)) := by rw [natC_get, hj]; rfl
    rw [← htake, List.getElem?_take_of_lt (by omega)] at h1
    rw [Nat.zero_add]
    simpa using h1

theorem UseIs.cells {st : List (Nat × Obj)} {v : Value} {xs : List Nat} (h : UseIs st v xs) {w : World} (hw : Sat st w) (hx : xs ≠ []) :
    ∃ ad cap, v = .slice (some ad) xs.length cap ∧ xs.length ≤ cap ∧ ∀ j u, (natC xs)[j]? = some u → w.cell? (ad.add j) = some u := by
  obtain ⟨x, xs', rfl⟩ := List.exists_cons_of_ne_nil hx
  obtain ⟨b, off, cap, e, hcap, hc⟩ := h.cell hw (j := 0) (x := x) rfl
  refine ⟨⟨b, off, none⟩, cap, e, hcap, fun j u hj => ?_⟩
  rw [natC_get] at hj
  cases e2 : (x :: xs')[j]? with
  | none => rw [e2] at hj; cases hj
  | some y =>
    rw [e2] at hj
    cases hj
    have := hc j y e2
    simp only [Addr.add]
    by_cases hj0 : j = 0
    · subst hj0; simpa using this
    · simpa [hj0] using this

set_option maxHeartbeats 1000000 in
set_option maxRecDepth 100000 in
theorem together_in (w : World) (st : List (Nat × Obj)) (hw : Sat st w) (v1 v2 : Value) (xs ys : List Nat) (h1 : UseIs st v1 xs) (h2 : UseIs st v2 ys) (hl : xs.length + ys.length ≤ 1000000) :
    Calls Try.prog 151 #[v1, v2] w fun e w' => ∃ v' st2, e = .returned v' ∧ Kept0 w w' ∧ UseIs (st ++ st2) v' (xs ++ ys) ∧ Sat st2 w' ∧ ∀ x ∈ st2, w.heap.size ≤ x.1 := by
  by_cases hx : xs = []
  · subst hx
    obtain ⟨a1, c1, e1⟩ := h1.form
    subst e1
    have h2' : UseIs (st ++ []) v2 ([] ++ ys) := by simpa using h2
    obtain ⟨a2, c2, e2⟩ := h2.form
    subst e2
    have H2 : Hid _ := h2'
    clear h1 h2 h2' hw
    go_enter Try.func151, Try.ntmps151
    go_wp2_with fail
    go_ret
    exact ⟨_, [], rfl, Kept.refl _ w, H2.out, fun x hx => by simp at hx, fun x hx => by simp at hx⟩
  · have lx : 0 < xs.length := List.length_pos_iff.2 hx
    have dx : ((xs.length : Int) == 0) = false := beq_eq_false_iff_ne.2 (by omega)
    by_cases hy : ys = []
    · subst hy
      have h1' : UseIs (st ++ []) v1 (xs ++ []) := by simpa using h1
      obtain ⟨a1, c1, e1⟩ := h1.form
      subst e1
      obtain ⟨a2, c2, e2⟩ := h2.form
      subst e2
      have H1 : Hid _ := h1'
      clear h1 h2 h1' hw
      go_enter Try.func151, Try.ntmps151
      go_wp2_with fail
      go_ret
      exact ⟨_, [], rfl, Kept.refl _ w, H1.out, fun x hx => by simp at hx, fun x hx => by simp at hx⟩
    · have ly : 0 < ys.length := List.length_pos_iff.2 hy
      have dy : ((ys.length : Int) == 0) = false := beq_eq_false_iff_ne.2 (by omega)
      obtain ⟨ad1, c1, e1, p1, g1⟩ := h1.cells hw hx
      obtain ⟨ad2, c2, e2, p2, g2⟩ := h2.cells hw hy
      subst e1 e2
      obtain ⟨i0, hi0, hz0, hz1, hz2⟩ := info_parts infoIntK
      go_enter Try.func151, Try.ntmps151
      go_wp2_with (at_builtin; refine wpList_append_grows w rfl _ _ 198 rfl 3 i0 _ 1 8 Try.underlying198 hi0 hz0 hz1 hz2 rfl (by decide) (some ad1) xs.length xs.length (natC xs) rfl (by simp) (by simp [natC_len]) (fun b hb => by cases hb; exact g1) ad2 ys.length c2 (natC ys) rfl (by simp [natC_len]) g2 (natC_one _) (by omega) (by unfold maxLen; omega) (by omega) ?_; intro v' w' r1 r2)
      have K : Kept0 w w' := Kept.grown (Kept.refl _ w) r2 (fun _ e => by cases e)
      rw [natC_app] at r1
      have r1' : w'.ownsRow w.heap.size 3 1 v' (xs ++ ys).length (natC (xs ++ ys)) := by rw [List.length_append]; exact r1
      obtain ⟨x, u1, u2, u3⟩ := UseIs.own r1' (by simp [hx])
      go_ret
      refine ⟨v', [x], rfl, K, u1.mono (fun y hy => List.mem_append_right _ hy), fun y hy => ?_, fun y hy => ?_⟩
      · simp at hy; subst hy; exact u2
      · simp at hy; subst hy; exact (r1'.lt _ u3).1

end Go.Proofs.Ytinphcnknionmaa
